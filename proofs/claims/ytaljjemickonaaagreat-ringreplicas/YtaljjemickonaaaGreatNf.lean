/- Several texts in one: Ud, Ue, Uf. -/
import Derived.Test.YtaljjemickonaaaGreatMt
import Derived.Test.YtaljjemickonaaaGreatNe
/- Rings: a list of numbers is written over. -/
namespace Go.Proofs.YtaljjemickonaaaGreat
open Go.ChangeShapes Go.WideShapes Go.ChangeAt Go.RowKit
set_option linter.unusedVariables false
set_option maxRecDepth 20000

/-- A row of so many numbers lies in a block. -/
def Ri1 (w : World) (g cap : Nat) : Prop := ∃ cur : Array Value, w.heap[g]? = some (.cells cur 3 (0, 0)) ∧ cur.size = cap * 1
theorem Ri1.lt {w : World} {g cap : Nat} (h : Ri1 w g cap) : g < w.heap.size := by
  obtain ⟨cur, h1, _⟩ := h
  exact (Array.getElem?_eq_some_iff.1 h1).1
theorem Ri1.cells {w : World} {g cap : Nat} (h : Ri1 w g cap) (k : Nat) (hk : k < cap) : ∃ v0, w.cell? ⟨g, k, none⟩ = some v0 ∧ w.frozen? ⟨g, k, none⟩ = false := by
  obtain ⟨cur, h1, h2⟩ := h
  exact ⟨_, by rw [cell_of_row w g _ cur 3 _ h1, Array.getElem?_eq_getElem (by omega)], by simp [World.frozen?, h1]⟩
theorem Ri1.set {w : World} {g cap : Nat} (h : Ri1 w g cap) (j : Nat) (v : Value) : Ri1 (w.setCell ⟨g, j, none⟩ v) g cap := by
  obtain ⟨cur, h1, h2⟩ := h
  exact ⟨cur.setIfInBounds j v, by rw [setCell_eq_setRow w g j cur 3 (0, 0) v h1, setRow_heap w g cur _ 3 _ h1], by simpa using h2⟩
theorem Ri1.kept {w w' : World} {row : Option Nat} {g cap : Nat} (h : Ri1 w g cap) (hg : w.grownBy w' row) (hne : some g ≠ row) : Ri1 w' g cap := by
  have := h.lt
  obtain ⟨cur, h1, h2⟩ := h
  exact ⟨cur, (hg.block g this hne).trans h1, h2⟩
theorem Ri1.own {w : World} {g cap : Nat} (h : Ri1 w g cap) (n : Nat) (hn : n ≤ cap) (hc : cap ≤ maxLen) : ∃ vs : List Value, vs.length = n * 1 ∧ w.ownsRow 0 3 1 (.slice (some ⟨g, 0, none⟩) n cap) n vs := by
  obtain ⟨cur, h1, h2⟩ := h
  have hl : (cur.toList.take (n * 1)).length = n * 1 := by
    rw [List.length_take, Array.length_toList, h2]
    omega
  exact ⟨cur.toList.take (n * 1), hl, hl, .inr ⟨g, cap, cur, rfl, Nat.zero_le _, h1, hn, hc, h2, rfl⟩⟩
theorem Ri1.of {w : World} {base : Nat} {g n cap : Nat} {vs : List Value} (h : w.ownsRow base 3 1 (.slice (some ⟨g, 0, none⟩) n cap) n vs) : Ri1 w g cap := by
  rcases h.2 with ⟨h', _⟩ | ⟨g', cap', cur, h', _, h2, _, _, h5, _⟩
  · simp at h'
  · simp only [Value.slice.injEq, Option.some.injEq, Addr.mk.injEq, and_true, true_and] at h'
    obtain ⟨rfl, rfl⟩ := h'
    exact ⟨cur, h2, h5⟩
set_option maxHeartbeats 1000000 in
theorem ispoil_fits (g n c : Nat) (w : World) (hr : Ri1 w g c) (hcm : c ≤ maxLen) (hc : n + 1 ≤ c) (hn : n ≤ 1000) :
    Calls Tryz.prog 28 #[.slice (some ⟨g, 0, none⟩) n c] w fun r w' => r = .returned (.tuple #[]) ∧ w.grownBy w' (some g) ∧ Ri1 w' g c := by
  obtain ⟨i0, z, hi, hz0, hz1, hz2, hz3⟩ := intT.info
  obtain ⟨vs, hvl, hvo⟩ := hr.own n (by omega) hcm
  have hcm : (c : Int) ≤ 9223372036854775807 := by unfold maxLen at hcm; omega
  have HO : Hid ((w.alloc (.cells (intE.flat [(-77 : Int)]).toArray 3)).ownsRow 0 3 1 (.slice (some ⟨g, 0, none⟩) n c) n vs) := World.ownsRow.kept hvo (World.grownBy_alloc w _ none) (.inr (by simp [Value.ownBlock]))
  clear hvo hr
  go_enter Tryz.func28, Tryz.ntmps28
  go_wp2_with (at_builtin; refine wpList_append_fits _ rfl (.tmp 5) (.tmp 6) 38 rfl 0 3 i0 1 intT.under hi hz1 g n c vs rfl HO.out ⟨w.heap.size, 0, none⟩ 1 1 (intE.flat [(-77 : Int)]) rfl rfl (SRd.news (srd_lit intE 3 w [(-77 : Int)])) (intE.flat_one _) hc ?_; intro w1 hown hg1)
  have HG1 : Hid (w.grownBy w1 (some g)) := gb_trans (gb_any (World.grownBy_alloc w _ none) _) hg1 (fun j hj => .inr hj)
  have HR1 : Hid (Ri1 w1 g c) := Ri1.of hown
  clear hown hg1 HO
  go_loopw [3] (fun i wr => ∃ k : Nat, k ≤ n + 1 ∧ i = .int .i64 k ∧ w.grownBy wr (some g) ∧ Ri1 wr g c) (fun i _ => n + 1 - (intOf i).toNat)
  case atStart => exact ⟨0, Nat.zero_le _, rfl, HG1.out, HR1.out⟩
  case round =>
    obtain ⟨k, hk, rfl, hgr, hrow⟩ := hrel
    have HGR : Hid (w.grownBy wr (some g)) := hgr
    have HROW : Hid (Ri1 wr g c) := hrow
    clear hgr hrow HG1 HR1
    by_cases hlt : k < n + 1
    · obtain ⟨v0, c0, f0⟩ := HROW.out.cells k (by omega)
      have hi : (k : Int) < (n : Int) + 1 := by omega
      go_wp2
      go_roundw
      case rel => exact ⟨k + 1, by omega, by go_num, gb_trans HGR.out (gb_set (g := g) rfl) (fun j hj => .inr hj), HROW.out.set _ _⟩
      case measure => simp [intOf]; omega
    · go_wp2
      go_loopw [4] (fun i wq => ∃ k : Nat, k ≤ n ∧ i = .int .i64 k ∧ w.grownBy wq (some g) ∧ Ri1 wq g c) (fun i _ => n - (intOf i).toNat)
      case atStart => exact ⟨0, Nat.zero_le _, rfl, HGR.out, HROW.out⟩
      case round =>
        obtain ⟨q, hq, rfl, hgq, hrq⟩ := hrel
        have HGQ : Hid (w.grownBy wr (some g)) := hgq
        have HRQ : Hid (Ri1 wr g c) := hrq
        clear hgq hrq HROW HGR
        by_cases hlt : q < n
        · obtain ⟨v0, c0, f0⟩ := HRQ.out.cells q (by omega)
          have hi : (q : Int) < (n : Int) := by omega
          go_wp2
          go_roundw
          case rel => exact ⟨q + 1, by omega, by go_num, gb_trans HGQ.out (gb_set (g := g) rfl) (fun j hj => .inr hj), HRQ.out.set _ _⟩
          case measure => simp [intOf]; omega
        · go_wp2
          go_end0
          exact ⟨rfl, HGQ.out, HRQ.out⟩
set_option maxHeartbeats 1000000 in
theorem ispoil_grow (g n : Nat) (w : World) (hr : Ri1 w g n) (hcm : n ≤ maxLen) (hn : n ≤ 1000) :
    Calls Tryz.prog 28 #[.slice (some ⟨g, 0, none⟩) n n] w fun r w' => r = .returned (.tuple #[]) ∧ w.grownBy w' (some g) ∧ Ri1 w' g n := by
  obtain ⟨i0, z, hi, hz0, hz1, hz2, hz3⟩ := intT.info
  obtain ⟨vs, hvl, hvo⟩ := hr.own n (Nat.le_refl _) hcm
  have HRW : Hid (Ri1 w g n) := hr
  have HL : Hid (vs.length = n * 1) := hvl
  have HOL : Hid (∀ b, some (⟨g, 0, none⟩ : Addr) = some b → ∀ j u, vs[j]? = some u → (w.alloc (.cells (intE.flat [(-77 : Int)]).toArray 3)).cell? (b.add j) = some u) := by
    intro b hb j u hj
    cases hb
    have h1 := World.ownsRow.cellAt (World.ownsRow.kept hvo (World.grownBy_alloc w (.cells (intE.flat [(-77 : Int)]).toArray 3) none) (.inr (by simp [Value.ownBlock]))) j (by have := (List.getElem?_eq_some_iff.1 hj).1; omega)
    rw [hj] at h1
    rw [add_plain, Nat.zero_add]
    exact h1
  clear hvo hr hvl
  go_enter Tryz.func28, Tryz.ntmps28
  go_wp2_with (at_builtin; refine wpList_append_grows _ rfl (.tmp 5) (.tmp 6) 38 rfl 3 i0 z 1 8 intT.under hi hz0 hz1 hz2 hz3 (by decide) (some ⟨g, 0, none⟩) n n vs rfl (by simp) HL.out HOL.out ⟨w.heap.size, 0, none⟩ 1 1 (intE.flat [(-77 : Int)]) rfl rfl (SRd.news (srd_lit intE 3 w [(-77 : Int)])) (intE.flat_one _) (by omega) (by unfold maxLen; omega) (by omega) ?_; intro v' w1 hown hg1; obtain ⟨g1, c1, rfl, hge1, hlt1⟩ := World.ownsRow.form hown (by omega))
  have HG1 : Hid (w.grownBy w1 none) := gb_trans (World.grownBy_alloc w _ none) hg1 (by simp)
  have HR1 : Hid (Ri1 w1 g1 c1) := Ri1.of hown
  have HGe : Hid (w.heap.size ≤ g1) := Nat.le_trans (World.grownBy_alloc w _ none).size hge1
  have hcm1 : n + 1 ≤ c1 ∧ (c1 : Int) ≤ 9223372036854775807 := by
    rcases hown.2 with ⟨h', _⟩ | ⟨g', cap', cur, h', _, _, h4, h5, _⟩
    · simp at h'
    · simp only [Value.slice.injEq, Option.some.injEq, Addr.mk.injEq, and_true, true_and] at h'
      obtain ⟨rfl, rfl⟩ := h'
      unfold maxLen at h5
      omega
  obtain ⟨hc1, hcm'⟩ := hcm1
  clear hown hg1 hge1 hlt1
  go_loopw [3] (fun i wr => ∃ k : Nat, k ≤ n + 1 ∧ i = .int .i64 k ∧ w.grownBy wr none ∧ Ri1 wr g1 c1) (fun i _ => n + 1 - (intOf i).toNat)
  case atStart => exact ⟨0, Nat.zero_le _, rfl, HG1.out, HR1.out⟩
  case round =>
    obtain ⟨k, hk, rfl, hgr, hrow⟩ := hrel
    have HGR : Hid (w.grownBy wr none) := hgr
    have HROW : Hid (Ri1 wr g1 c1) := hrow
    clear hgr hrow HG1 HR1
    by_cases hlt : k < n + 1
    · obtain ⟨v0, c0, f0⟩ := HROW.out.cells k (by omega)
      have hi : (k : Int) < (n : Int) + 1 := by omega
      go_wp2
      go_roundw
      case rel => exact ⟨k + 1, by omega, by go_num, gb_trans HGR.out (gb_set (g := g1) rfl) (fun j hj => .inl (by simp at hj; have := HGe.out; omega)), HROW.out.set _ _⟩
      case measure => simp [intOf]; omega
    · have HRA : Hid (Ri1 wr g n) := HRW.out.kept HGR.out (by simp)
      clear HROW
      go_wp2
      go_loopw [4] (fun i wq => ∃ k : Nat, k ≤ n ∧ i = .int .i64 k ∧ w.grownBy wq (some g) ∧ Ri1 wq g n) (fun i _ => n - (intOf i).toNat)
      case atStart => exact ⟨0, Nat.zero_le _, rfl, gb_any HGR.out _, HRA.out⟩
      case round =>
        obtain ⟨q, hq, rfl, hgq, hrq⟩ := hrel
        have HGQ : Hid (w.grownBy wr (some g)) := hgq
        have HRQ : Hid (Ri1 wr g n) := hrq
        clear hgq hrq HRA HGR
        by_cases hlt : q < n
        · obtain ⟨v0, c0, f0⟩ := HRQ.out.cells q (by omega)
          have hi : (q : Int) < (n : Int) := by omega
          go_wp2
          go_roundw
          case rel => exact ⟨q + 1, by omega, by go_num, gb_trans HGQ.out (gb_set (g := g) rfl) (fun j hj => .inr hj), HRQ.out.set _ _⟩
          case measure => simp [intOf]; omega
        · go_wp2
          go_end0
          exact ⟨rfl, HGQ.out, HRQ.out⟩
set_option maxHeartbeats 1000000 in
theorem ispoil_nil (w : World) :
    Calls Tryz.prog 28 #[.slice none 0 0] w fun r w' => r = .returned (.tuple #[]) ∧ w.grownBy w' none := by
  obtain ⟨i0, z, hi, hz0, hz1, hz2, hz3⟩ := intT.info
  go_enter Tryz.func28, Tryz.ntmps28
  go_wp2_with (at_builtin; refine wpList_append_grows _ rfl (.tmp 5) (.tmp 6) 38 rfl 3 i0 z 1 8 intT.under hi hz0 hz1 hz2 hz3 (by decide) none 0 0 [] rfl (by simp) rfl (by simp) ⟨w.heap.size, 0, none⟩ 1 1 (intE.flat [(-77 : Int)]) rfl rfl (SRd.news (srd_lit intE 3 w [(-77 : Int)])) (intE.flat_one _) (by omega) (by unfold maxLen; omega) (by omega) ?_; intro v' w1 hown hg1; obtain ⟨g1, c1, rfl, hge1, hlt1⟩ := World.ownsRow.form hown (by omega))
  have HG1 : Hid (w.grownBy w1 none) := gb_trans (World.grownBy_alloc w _ none) hg1 (by simp)
  have HR1 : Hid (Ri1 w1 g1 c1) := Ri1.of hown
  have HGe : Hid (w.heap.size ≤ g1) := Nat.le_trans (World.grownBy_alloc w _ none).size hge1
  have hcm1 : 1 ≤ c1 ∧ (c1 : Int) ≤ 9223372036854775807 := by
    rcases hown.2 with ⟨h', _⟩ | ⟨g', cap', cur, h', _, _, h4, h5, _⟩
    · simp at h'
    · simp only [Value.slice.injEq, Option.some.injEq, Addr.mk.injEq, and_true, true_and] at h'
      obtain ⟨rfl, rfl⟩ := h'
      unfold maxLen at h5
      omega
  obtain ⟨hc1, hcm'⟩ := hcm1
  clear hown hg1 hge1 hlt1
  go_loopw [3] (fun i wr => ∃ k : Nat, k ≤ 1 ∧ i = .int .i64 k ∧ w.grownBy wr none ∧ Ri1 wr g1 c1) (fun i _ => 1 - (intOf i).toNat)
  case atStart => exact ⟨0, Nat.zero_le _, rfl, HG1.out, HR1.out⟩
  case round =>
    obtain ⟨k, hk, rfl, hgr, hrow⟩ := hrel
    have HGR : Hid (w.grownBy wr none) := hgr
    have HROW : Hid (Ri1 wr g1 c1) := hrow
    clear hgr hrow HG1 HR1
    by_cases hlt : k < 1
    · obtain ⟨v0, c0, f0⟩ := HROW.out.cells k (by omega)
      have hi : (k : Int) < 1 := by omega
      go_wp2
      go_roundw
      case rel => exact ⟨k + 1, by omega, by go_num, gb_trans HGR.out (gb_set (g := g1) rfl) (fun j hj => .inl (by simp at hj; have := HGe.out; omega)), HROW.out.set _ _⟩
      case measure => simp [intOf]; omega
    · clear HROW
      go_wp2
      refine wp_loop_rounds 1 ?_
      rw [rounds_succ]
      go_wp2
      go_end0
      exact ⟨rfl, HGR.out⟩
theorem ispoil (a : Option Addr) (base n c : Nat) (l : List Int) (w : World) (ho : SOwn intE 3 w base (.slice a n c) n l) (hn : n ≤ 1000) :
    Calls Tryz.prog 28 #[.slice a n c] w fun r w' => r = .returned (.tuple #[]) ∧ w.grownBy w' (Value.slice a n c).ownBlock := by
  rcases ho.2 with ⟨h', h0⟩ | ⟨g, cap, cur, h', h1, h2, h3, h4, h5, h6⟩
  · simp only [Value.slice.injEq] at h'
    obtain ⟨rfl, rfl, rfl⟩ := h'
    exact ispoil_nil w
  · simp only [Value.slice.injEq] at h'
    obtain ⟨rfl, _, rfl⟩ := h'
    have hr : Ri1 w g c := ⟨cur, h2, h5⟩
    by_cases hc : n + 1 ≤ c
    · exact (ispoil_fits g n c w hr h4 hc hn).mono fun r w' h => ⟨h.1, h.2.1⟩
    · obtain rfl : c = n := by omega
      exact (ispoil_grow g c w hr h4 hn).mono fun r w' h => ⟨h.1, h.2.1⟩
end Go.Proofs.YtaljjemickonaaaGreat

/- Rings: the document's Replicas. -/
namespace Go.Proofs.YtaljjemickonaaaGreat
open Go.RowKit Go.Shelf
set_option linter.unusedVariables false
set_option maxRecDepth 20000

/-- What the document's Replicas answers. -/
def RrOut (ms : List Mem) (h rf : Int) (w : World) (e : Ending) (w' : World) : Prop :=
  ∃ a' c', e = .returned (.tuple #[.slice a' (repL ms h rf).length c', .int .i64 (repC ms h rf)]) ∧ SRd intE w' a' (repL ms h rf) ∧ w.grownBy w' none
set_option maxHeartbeats 16000000 in
theorem r_replicas (E : Int) (ms : List Mem) (raw : List MRow) (a : Option Addr) (L c : Nat) (h rf : Int) (w : World) (hx : MsRd w a ms raw) (hL : ms.length = L) (hz : L ≤ 3518437208800) (hz2 : ∀ s ∈ ms, s.2.2.length ≤ 35184372088832) (ht : wfT ms) (hh : 0 ≤ h ∧ h < 4294967296) :
    Calls Tryz.prog 25 #[.agg #[.int .u64 E, .slice a L c], .int .u32 h, .int .i64 rf] w fun e w' => RrOut ms h rf w e w' := by
  have HX : Hid (MsRd w a ms raw) := hx
  have HL : Hid (ms.length = L) := hL
  have gA := World.grownBy_alloc w (.cells #[.int .u64 E, .slice a L c] 25) none
  have HG : Hid (w.grownBy (w.alloc (.cells #[.int .u64 E, .slice a L c] 25)) none) := gA
  have HBr : Hid ((w.alloc (.cells #[.int .u64 E, .slice a L c] 25)).heap[w.heap.size]? = some (.cells #[.int .u64 E, .slice a L c] 25 (0, 0))) := heap_alloc_new w _
  have CK := r_check E ms raw a L c (w.alloc (.cells #[.int .u64 E, .slice a L c] 25)) (hx.grown gA) hL hz hz2
  have NX : Hid (∀ u ma met K mc, w.grownBy u none → SRd intE u ma met → met.length = K → K ≤ 1000 → Calls Tryz.prog 55 #[.agg #[.int .u64 E, .slice a L c], .int .u32 h, .slice ma K mc] u fun e w' => e = .returned (.int .i64 (nextR ms h met)) ∧ u.grownBy w' none) := fun u ma met K mc hg hm hK h5 => r_next E ms raw a L c h ma met K mc u (hx.grown hg) hL hz hz2 hm hK h5
  obtain ⟨B, eB⟩ : ∃ B, w.heap.size = B := ⟨_, rfl⟩
  rw [eB] at HBr
  have EB : Hid (w.heap.size = B) := eB
  unfold RrOut
  by_cases hbad : ringOk ms = true ∧ 1 ≤ rf ∧ rf ≤ 5
  · obtain ⟨ho, h1, h5⟩ := hbad
    obtain ⟨K, rfl⟩ : ∃ K : Nat, rf = (K : Int) := ⟨rf.toNat, by omega⟩
    have hck : chkC ms = 0 := by unfold chkC; rw [if_pos ho]
    rw [hck] at CK
    have HAL : Hid ((repM ms h).length = actN ms) := act_len ho h
    have HNR : Hid (∀ i, i < (repM ms h).length → (repM ms h).take (i + 1) = (repM ms h).take i ++ [nextR ms h ((repM ms h).take i)]) := fun i hi => next_rep ho ht hh i hi
    have hl16 := (ok_small ho).1
    have HRC : Hid (repC ms h K = if (K : Int) ≤ (repM ms h).length then 0 else 133) := by show _ = _; unfold repC; rw [if_pos ⟨ho, h1, h5⟩]
    have HRL : Hid (repL ms h K = if repC ms h K = 0 then (repM ms h).take K else []) := by show _ = _; unfold repL; simp
    have hK1 : 1 ≤ K ∧ K ≤ 5 := by omega
    clear hx hz hz2 ht hh gA eB ho hck h1 h5
    generalize repL ms h K = RL at *
    generalize repC ms h K = RC at *
    obtain ⟨x0, x1⟩ := cell2 HBr.out
    have hc1 : decide ((K : Int) < 1) = false := by simp; omega
    have hc5 : decide ((5 : Int) < (K : Int)) = false := by simp; omega
    have hc1' : ¬ (K : Int) < 1 := by omega
    have hc5' : ¬ (5 : Int) < (K : Int) := by omega
    go_enter Tryz.func25, Tryz.ntmps25
    go_wp2_with fail
    try rw [EB.out]
    generalize w.alloc (.cells #[.int .u64 E, .slice a L c] 25) = W at *
    refine CK.mono ?_
    clear CK x0 x1
    rintro e u1 ⟨rfl, g9⟩
    have HG1 : Hid (w.grownBy u1 none) := HG.out.trans g9
    have HB1 : Hid (u1.heap[B]? = some (.cells #[.int .u64 E, .slice a L c] 25 (0, 0))) := by show _ = _; rw [g9.block B (Array.getElem?_eq_some_iff.1 HBr.out).1 (by simp)]; exact HBr.out
    clear g9 HBr HG
    go_wp2
    go_loopw [8, 9] (fun t8 t9 wr => ∃ (k : Nat), k ≤ L ∧ t9 = .int .i64 k ∧ t8 = .int .i64 (((ms.take k).countP (fun m => decide (m.2.1 = 2)) : Nat) : Int) ∧ u1.grownBy wr none) (fun _ t9 _ => L - (intOf t9).toNat)
    case atStart => exact ⟨0, Nat.zero_le _, rfl, by simp, World.grownBy.refl _ _⟩
    case round =>
      obtain ⟨k, hk, rfl, rfl, hw⟩ := hrel
      have HW : Hid (u1.grownBy wr none) := hw
      have hbx : wr.heap[B]? = some (.cells #[.int .u64 E, .slice a L c] 25 (0, 0)) := by rw [hw.block B (Array.getElem?_eq_some_iff.1 HB1.out).1 (by simp)]; exact HB1.out
      have HBX : Hid (wr.heap[B]? = some (.cells #[.int .u64 E, .slice a L c] 25 (0, 0))) := hbx
      obtain ⟨x0, x1⟩ := cell2 hbx
      clear hw hbx
      by_cases hlt : k < L
      · have hki : (k : Int) < (L : Int) := by omega
        have hl := HL.out
        have hX := HX.out.grown (HG1.out.trans HW.out)
        obtain ⟨⟨i1, s1, t1⟩, ex⟩ : ∃ x, ms[k]? = some x := ⟨_, List.getElem?_eq_getElem (by omega)⟩
        obtain ⟨ba, off, ta, tc, rfl, a0, a1, a2, rt, _⟩ := hX.cells ex
        simp only at a0 a1 a2 rt
        have HCN : Hid ((ms.take (k + 1)).countP (fun m => decide (m.2.1 = 2)) = (ms.take k).countP (fun m => decide (m.2.1 = 2)) + (if s1 = 2 then 1 else 0)) := by
          show _ = _
          rw [List.take_add_one, ex, List.countP_append]
          congr 1
          simp [List.countP_cons]
        have hcl : (ms.take k).countP (fun m => decide (m.2.1 = 2)) ≤ 16 := by
          have h1 := List.countP_le_length (p := fun m : Mem => decide (m.2.1 = 2)) (l := ms.take k)
          rw [List.length_take] at h1
          omega
        generalize hcn : (ms.take k).countP (fun m => decide (m.2.1 = 2)) = cn at *
        clear hcn ex hX rt hl
        have hcw : IntKind.i64.wrap ((cn : Int) + 1) = (cn : Int) + 1 := by rw [IntKind.wrap_i64]; omega
        by_cases hs2 : s1 = 2
        · have hb2 : (s1 == 2) = true := by simp [hs2]
          have HC2 : Hid ((ms.take (k + 1)).countP (fun m => decide (m.2.1 = 2)) = cn + 1) := by show _ = _; rw [HCN.out, if_pos hs2]
          clear hs2
          go_wp2
          go_roundw
          case rel => exact ⟨k + 1, by omega, by go_num, by rw [HC2.out]; rfl, HW.out⟩
          case measure => simp [intOf]; omega
        · have hb2 : (s1 == 2) = false := by simp [hs2]
          have HC2 : Hid ((ms.take (k + 1)).countP (fun m => decide (m.2.1 = 2)) = cn) := by show _ = _; rw [HCN.out, if_neg hs2]; rfl
          clear hs2
          go_wp2
          go_roundw
          case rel => exact ⟨k + 1, by omega, by go_num, by rw [HC2.out], HW.out⟩
          case measure => simp [intOf]; omega
      · obtain rfl : k = L := by omega
        have hcn : (ms.take k).countP (fun m => decide (m.2.1 = 2)) = (repM ms h).length := by rw [HAL.out]; unfold actN; rw [← HL.out, List.take_length]
        rw [hcn]
        generalize repM ms h = R at *
        have HWW : Hid (w.grownBy wr none) := HG1.out.trans HW.out
        clear hcn HB1 HW HG1 HAL
        by_cases hfew : (R.length : Int) < (K : Int)
        · have hd : decide ((R.length : Int) < (K : Int)) = true := by simp; omega
          have HRC2 : Hid (RC = 133) := by show _ = _; rw [HRC.out, if_neg (by omega)]
          have HRL2 : Hid (RL = []) := by show _ = _; rw [HRL.out, HRC2.out]; rfl
          go_wp2
          go_ret2
          exact ⟨none, 0, by rw [HRL2.out, HRC2.out]; rfl, by rw [HRL2.out]; exact .inl rfl, HWW.out⟩
        · have hd : decide ((R.length : Int) < (K : Int)) = false := by simp; omega
          have HRC2 : Hid (RC = 0) := by show _ = _; rw [HRC.out, if_pos (by omega)]
          have HRL2 : Hid (RL = R.take K) := by show _ = _; rw [HRL.out, HRC2.out]; rfl
          have HKL : Hid (K ≤ R.length) := by show _ ≤ _; omega
          go_wp2
          generalize wr = V at *
          obtain ⟨N0, eN0⟩ : ∃ N0, V.heap.size = N0 := ⟨_, rfl⟩
          have EN0 : Hid (V.heap.size = N0) := eN0
          clear eN0 x0 x1
          go_loopw [10] (fun t10 wx => ∃ (i : Nat) (oa : Option Addr) (oc : Nat), i ≤ K ∧ t10 = .slice oa i oc ∧ SOwn intE 3 wx N0 (.slice oa i oc) i (R.take i) ∧ V.grownBy wx none) (fun t10 _ => K - (match t10 with | .slice _ n _ => n | _ => 0))
          case atStart => exact ⟨0, none, 0, by omega, rfl, SOwn.nil 3 V _, World.grownBy.refl _ _⟩
          case round =>
            obtain ⟨i, oa, oc, hi, rfl, hso, hg⟩ := hrel
            have HO : Hid (SOwn intE 3 wr N0 (.slice oa i oc) i (R.take i)) := hso
            have HGV : Hid (V.grownBy wr none) := hg
            have hbx : wr.heap[B]? = some (.cells #[.int .u64 E, .slice a k c] 25 (0, 0)) := by rw [hg.block B (Array.getElem?_eq_some_iff.1 HBX.out).1 (by simp)]; exact HBX.out
            obtain ⟨x0, x1⟩ := cell2 hbx
            clear hso hg hbx
            by_cases hlt2 : i < K
            · have hii : (i : Int) < (K : Int) := by omega
              have CN := NX.out wr oa (R.take i) i oc (HWW.out.trans HGV.out) (SOwn.rd HO.out) (by rw [List.length_take]; have := HKL.out; omega) (by omega)
              have HNN : Hid (R.take (i + 1) = R.take i ++ [nextR ms h (R.take i)]) := HNR.out i (by have := HKL.out; omega)
              generalize nextR ms h (R.take i) = v at CN HNN
              go_wp2_with fail
              refine CN.mono ?_
              clear CN x0 x1
              rintro e u2 ⟨rfl, g9⟩
              have HO2 : Hid (SOwn intE 3 u2 N0 (.slice oa i oc) i (R.take i)) := SOwn.kept HO.out g9 (Classical.em _)
              have HGV2 : Hid (V.grownBy u2 none) := HGV.out.trans g9
              clear g9
              have HOA : Hid (SOwn intE 3 (u2.alloc (.cells #[.int .i64 v] 3)) N0 (.slice oa i oc) i (R.take i)) := SOwn.kept HO2.out (World.grownBy_alloc u2 _ none) (Classical.em _)
              have HRA : Hid (SRd intE (u2.alloc (.cells #[.int .i64 v] 3)) (some ⟨u2.heap.size, 0, none⟩) [v]) := srd_lit intE 3 u2 [v]
              have HSA : Hid (N0 ≤ (u2.alloc (.cells #[.int .i64 v] 3)).heap.size) := by
                show _ ≤ _
                rw [size_alloc]
                have := HGV2.out.size
                have := EN0.out
                omega
              have HNX : Hid (∀ v7 w7, SOwn intE 3 w7 N0 v7 (i + 1) (R.take i ++ [v]) → (u2.alloc (.cells #[.int .i64 v] 3)).grownBy w7 (Value.slice oa i oc).ownBlock → Hid (∃ a7 c7, v7 = .slice a7 (i + 1) c7 ∧ SOwn intE 3 w7 N0 (.slice a7 (i + 1) c7) (i + 1) (R.take (i + 1)) ∧ V.grownBy w7 none)) := by
                intro v7 w7 ho7 hg7
                obtain ⟨a7, c7, rfl⟩ := sown_slice ho7
                refine ⟨a7, c7, rfl, by rw [HNN.out]; exact ho7, ?_⟩
                refine gb_trans (HGV2.out.trans (World.grownBy_alloc u2 _ none)) hg7 (fun j hj => .inl ?_)
                have := (SOwn.block HO.out j hj).1
                have := EN0.out
                omega
              go_wp2_with (at_builtin; refine wpList_append_at intT rfl (.tmp 45) (.tmp 50) rfl N0 (.slice oa i oc) i _ rfl HOA.out ⟨u2.heap.size, 0, none⟩ [v] 1 1 rfl rfl HRA.out (by omega) (by unfold maxLen; omega) HSA.out ?_; intro v7 w7 ho7 hg7 hn7 hl7; have HR7 := HNX.out v7 w7 ho7 hg7; clear ho7 hg7 hn7 hl7)
              obtain ⟨a7, c7, e7, h71, h72⟩ := HR7.out
              subst e7
              have H71 : Hid (SOwn intE 3 w7 N0 (.slice a7 (i + 1) c7) (i + 1) (R.take (i + 1))) := h71
              have H72 : Hid (V.grownBy w7 none) := h72
              clear h71 h72 HR7
              go_roundw
              case rel => exact ⟨i + 1, a7, c7, by omega, rfl, H71.out, H72.out⟩
              case measure => simp; omega
            · obtain rfl : i = K := by omega
              go_wp2
              go_ret2
              have e9 : (R.take i).length = i := by rw [List.length_take]; have := HKL.out; omega
              exact ⟨oa, oc, by rw [HRL2.out, HRC2.out, e9]; rfl, by rw [HRL2.out]; exact SOwn.rd HO.out, HWW.out.trans HGV.out⟩
  · have hRC : repC ms h rf = 130 := by unfold repC; rw [if_neg hbad]
    have hRL : repL ms h rf = [] := by unfold repL; rw [hRC]; rfl
    rw [hRC, hRL]
    have HCS : Hid ((chkC ms != 0) = true ∨ (chkC ms != 0) = false ∧ (rf < 1 ∨ ¬ rf < 1 ∧ 5 < rf)) := by
      by_cases ho : ringOk ms = true
      · refine .inr ⟨by unfold chkC; rw [if_pos ho]; rfl, ?_⟩
        by_cases h1 : rf < 1
        · exact .inl h1
        · refine .inr ⟨h1, ?_⟩
          apply Classical.byContradiction
          intro h2
          exact hbad ⟨ho, by omega, by omega⟩
      · exact .inl (by unfold chkC; rw [if_neg ho]; rfl)
    generalize chkC ms = q at *
    clear hx hz hz2 ht hh gA eB hbad hRC hRL NX HX
    obtain ⟨x0, x1⟩ := cell2 HBr.out
    go_enter Tryz.func25, Tryz.ntmps25
    go_wp2_with fail
    try rw [EB.out]
    generalize w.alloc (.cells #[.int .u64 E, .slice a L c] 25) = W at *
    refine CK.mono ?_
    clear CK x0 x1
    rintro e u1 ⟨rfl, g9⟩
    have HG1 : Hid (w.grownBy u1 none) := HG.out.trans g9
    clear g9 HBr HG
    rcases HCS.out with h1 | ⟨h1, h2 | ⟨h2, h3⟩⟩
    · go_wp2
      go_ret2
      exact ⟨none, 0, rfl, .inl rfl, HG1.out⟩
    · go_wp2
      go_ret2
      exact ⟨none, 0, rfl, .inl rfl, HG1.out⟩
    · go_wp2
      go_ret2
      exact ⟨none, 0, rfl, .inl rfl, HG1.out⟩
end Go.Proofs.YtaljjemickonaaaGreat

/- Rings: RingReplicas, walked. -/
namespace Go.Proofs.YtaljjemickonaaaGreat
open Go.RowKit Go.Shelf
set_option linter.unusedVariables false
set_option maxRecDepth 20000

theorem repL_len (ms : List Mem) (h rf : Int) : (repL ms h rf).length ≤ 5 := by
  unfold repL
  split
  · rename_i hc
    have : rf ≤ 5 := by
      unfold repC at hc
      split at hc
      · omega
      · cases hc
    rw [List.length_take]
    omega
  · simp
set_option maxHeartbeats 16000000 in
theorem replicas_walk (E : Int) (a : Option Addr) (n c : Nat) (raw : List MRow) (ms : List Mem) (h rf : Int) (w : World) (hr : MsRd w a ms raw) (hnil : a = none → c = 0) (hn : ms.length = n) (hz : n ≤ 3518437208800) (hz2 : ∀ s ∈ ms, s.2.2.length ≤ 35184372088832) (ht : wfT ms) (hh : 0 ≤ h ∧ h < 4294967296) :
    Calls Tryz.prog 4 #[.agg #[.int .u64 E, .slice a n c], .int .u32 h, .int .i64 rf] w fun e w' => e = .returned (.bool true) ∧ w.grownBy w' none := by
  have AW : Hid (∀ u, Calls Tryz.prog 24 #[] u fun e w' => e = .returned (.bool true) ∧ u.grownBy w' none) := r_awake
  have CP : Hid (∀ u a c raw, MsRd u a ms raw → Calls Tryz.prog 9 #[.agg #[.int .u64 E, .slice a n c]] u fun e w' => CpOut E ms n u e w') := fun u a c raw h => cp_any h hn hz hz2
  have RR : Hid (∀ u a c raw, MsRd u a ms raw → Calls Tryz.prog 25 #[.agg #[.int .u64 E, .slice a n c], .int .u32 h, .int .i64 rf] u fun e w' => ∃ a' c', e = .returned (.tuple #[.slice a' (repL ms h rf).length c', .int .i64 (repC ms h rf)]) ∧ SRd intE w' a' (repL ms h rf) ∧ u.grownBy w' none) := fun u a c raw hx => r_replicas E ms raw a n c h rf u hx hn hz hz2 ht hh
  have RP : Hid (∀ u a c raw, MsRd u a ms raw → Calls Tryz.prog 26 #[.agg #[.int .u64 E, .slice a n c], .int .u32 h, .int .i64 rf] u fun e w' => ∃ a' c', e = .returned (.tuple #[.slice a' (repL ms h rf).length c', .int .i64 (repC ms h rf)]) ∧ SOwn intE 3 w' u.heap.size (.slice a' (repL ms h rf).length c') (repL ms h rf).length (repL ms h rf) ∧ u.grownBy w' none) := fun u a c raw hx => f_replicas E ms raw h rf a n c u hx hn hz hz2
  have SM : Hid (∀ u a b c d ra rb, MsRd u a ms ra → MsRd u b ms rb → Calls Tryz.prog 14 #[.agg #[.int .u64 E, .slice a n c], .agg #[.int .u64 E, .slice b n d]] u fun e w' => e = .returned (.bool true) ∧ u.grownBy w' none) := fun u a b c d ra rb h1 h2 => by
    refine (rsame E E a b ra rb ms ms n n c d u h1 h2 hn hn (by omega) hz2).mono ?_
    rintro e w' ⟨rfl, h⟩
    exact ⟨by simp, h⟩
  have hl5 := repL_len ms h rf
  generalize repL ms h rf = RL at *
  generalize repC ms h rf = RC at *
  obtain ⟨K, hK⟩ : ∃ K, RL.length = K := ⟨_, rfl⟩
  have HK : Hid (RL.length = K) := hK
  rw [hK] at hl5 RR RP
  have SI : Hid (∀ u a b c d, SRd intE u a RL → SRd intE u b RL → Calls Tryz.prog 27 #[.slice a K c, .slice b K d] u fun e w' => e = .returned (.bool true) ∧ u.grownBy w' none) := fun u a b c d h1 h2 => by
    refine (isameQ a b RL RL K K c d u h1 h2 hK hK (by omega)).mono ?_
    rintro e w' ⟨rfl, n, rfl⟩
    exact ⟨by simp, gb_drewN _ _⟩
  have HBr : Hid (RgBox (w.alloc (.cells #[.int .u64 E, .slice a n c] 25)) w.heap.size E a n c ms raw) := RgBox.made hr hnil hn
  have HG : Hid (w.grownBy (w.alloc (.cells #[.int .u64 E, .slice a n c] 25)) none) := World.grownBy_alloc _ _ none
  have HN : Hid (ms.length = n) := hn
  have H5 : Hid (K ≤ 5) := hl5
  clear hr hnil hn hz hz2 ht hh hK hl5
  obtain ⟨B, eB⟩ : ∃ B, w.heap.size = B := ⟨_, rfl⟩
  have EB : Hid (w.heap.size = B) := eB
  rw [eB] at HBr
  clear eB
  obtain ⟨x0, x1⟩ := HBr.out.cells
  have C1 := RR.out _ a c _ HBr.out.rd
  go_enter Tryz.func4, Tryz.ntmps4
  go_wp2_with fail
  try rw [EB.out]
  generalize w.alloc (.cells #[.int .u64 E, .slice a n c] 25) = W at *
  clear x0 x1
  refine C1.mono ?_
  clear C1
  rintro e u1 ⟨wa, wc, rfl, s9, g9⟩
  replace HBr : Hid (RgBox u1 B E a n c ms raw) := HBr.out.grown g9
  replace HG : Hid (w.grownBy u1 none) := HG.out.trans g9
  have HFw : Hid (SRd intE u1 wa RL) := s9
  clear s9 g9
  obtain ⟨x0, x1⟩ := HBr.out.cells
  have C2 := CP.out _ a c _ HBr.out.rd
  go_wp2_with fail
  clear x0 x1
  refine C2.mono ?_
  clear C2
  rintro e u2 ⟨ax, cx, rawx, rfl, m9, nl9, g9⟩
  obtain ⟨Bx, eBx⟩ : ∃ B, u2.heap.size = B := ⟨_, rfl⟩
  have EBx : Hid (u2.heap.size = Bx) := eBx
  have hx := RgBox.made (E := E) m9 nl9 HN.out
  rw [eBx] at hx
  have gA := g9.trans (World.grownBy_alloc u2 (.cells #[.int .u64 E, .slice ax n cx] 25) none)
  replace HG : Hid (w.grownBy (u2.alloc (.cells #[.int .u64 E, .slice ax n cx] 25)) none) := HG.out.trans gA
  replace HBr : Hid (RgBox (u2.alloc (.cells #[.int .u64 E, .slice ax n cx] 25)) B E a n c ms raw) := HBr.out.grown gA
  replace HFw : Hid (SRd intE (u2.alloc (.cells #[.int .u64 E, .slice ax n cx] 25)) wa RL) := HFw.out.grown gA (by simp)
  have HBx : Hid (RgBox (u2.alloc (.cells #[.int .u64 E, .slice ax n cx] 25)) Bx E ax n cx ms rawx) := hx
  clear hx gA m9 nl9 g9 eBx
  obtain ⟨x0, x1⟩ := HBx.out.cells
  have C3 := RP.out _ ax cx _ HBx.out.rd
  go_wp2_with fail
  try rw [EBx.out]
  generalize u2.alloc (.cells #[.int .u64 E, .slice ax n cx] 25) = V at *
  clear x0 x1
  refine C3.mono ?_
  clear C3
  rintro e u3 ⟨aa, ca, rfl, so9, g9⟩
  have HOa : Hid (SOwn intE 3 u3 V.heap.size (.slice aa K ca) K RL) := so9
  have HV : Hid (V.grownBy u3 none) := g9
  replace HBr : Hid (RgBox u3 B E a n c ms raw) := HBr.out.grown g9
  replace HBx : Hid (RgBox u3 Bx E ax n cx ms rawx) := HBx.out.grown g9
  clear so9 g9
  obtain ⟨x0, x1⟩ := HBx.out.cells
  obtain ⟨y0, y1⟩ := HBr.out.cells
  have C4 := SM.out _ ax a cx c _ _ HBx.out.rd HBr.out.rd
  have hrc : (RC != RC) = false := by simp
  go_wp2_with fail
  clear x0 x1 y0 y1
  refine C4.mono ?_
  clear C4
  rintro e u4 ⟨rfl, g9⟩
  replace HBx : Hid (RgBox u4 Bx E ax n cx ms rawx) := HBx.out.grown g9
  replace HOa : Hid (SOwn intE 3 u4 V.heap.size (.slice aa K ca) K RL) := SOwn.kept HOa.out g9 (Classical.em _)
  replace HV : Hid (V.grownBy u4 none) := HV.out.trans g9
  clear g9 HBr
  have C5 := SI.out _ aa wa ca wc (SOwn.rd HOa.out) (HFw.out.grown HV.out (by simp))
  go_wp2_with fail
  refine C5.mono ?_
  clear C5
  rintro e u5 ⟨rfl, g9⟩
  replace HBx : Hid (RgBox u5 Bx E ax n cx ms rawx) := HBx.out.grown g9
  replace HOa : Hid (SOwn intE 3 u5 V.heap.size (.slice aa K ca) K RL) := SOwn.kept HOa.out g9 (Classical.em _)
  replace HV : Hid (V.grownBy u5 none) := HV.out.trans g9
  clear g9
  obtain ⟨x0, x1⟩ := HBx.out.cells
  have C6 := RP.out _ ax cx _ HBx.out.rd
  go_wp2_with fail
  clear x0 x1
  refine C6.mono ?_
  clear C6
  rintro e u6 ⟨ab, cb, rfl, so9, g9⟩
  have HRW : Hid (∀ k, (Value.slice aa K ca).ownBlock = some k → V.heap.size ≤ k ∧ k < u5.heap.size) := fun k hk => SOwn.block HOa.out k hk
  replace HOa : Hid (SOwn intE 3 u6 V.heap.size (.slice aa K ca) K RL) := SOwn.kept HOa.out g9 (Classical.em _)
  replace HV : Hid (V.grownBy u6 none) := HV.out.trans g9
  have HOb : Hid (SOwn intE 3 u6 u5.heap.size (.slice ab K cb) K RL) := so9
  clear so9 g9 HBx
  have C7 := ispoil aa V.heap.size K ca RL u6 HOa.out (by have := H5.out; omega)
  go_wp2_with fail
  refine C7.mono ?_
  clear C7
  rintro e u7 ⟨rfl, g9⟩
  have HV7 : Hid (V.grownBy u7 none) := gb_trans HV.out g9 (fun k hk => .inl (HRW.out k hk).1)
  have HFb : Hid (SRd intE u7 ab RL) := (SOwn.rd HOb.out).grown g9 (fun x hx e => by
    have h1 := (HRW.out x.block e.symm).2
    subst hx
    have h2 := (SOwn.block HOb.out x.block (by
      rcases HOb.out.2 with ⟨h', _⟩ | ⟨g', cap', cur, h', _⟩
      · simp at h'
      · simp only [Value.slice.injEq, Option.some.injEq] at h'
        obtain ⟨rfl, _⟩ := h'
        rfl)).1
    omega)
  clear g9
  have C8 := SI.out _ ab wa cb wc HFb.out (HFw.out.grown HV7.out (by simp))
  go_wp2_with fail
  refine C8.mono ?_
  clear C8
  rintro e u8 ⟨rfl, g9⟩
  have HZ : Hid (w.grownBy u8 none) := (HG.out.trans HV7.out).trans g9
  have C9 := AW.out u8
  clear g9
  go_wp2_with fail
  refine C9.mono ?_
  clear C9
  rintro e u9 ⟨rfl, g9⟩
  replace HZ : Hid (w.grownBy u9 none) := HZ.out.trans g9
  clear g9
  go_wp2
  go_ret
  exact ⟨rfl, HZ.out⟩
theorem ringReplicas_walk (E : Int) (a : Option Addr) (c : Nat) (raw : List MRow) (ms : List Mem) (h rf : Int) (w : World) (hr : MsRd w a ms raw) (hnil : a = none → c = 0) (hz : ms.length ≤ 3518437208800) (hz2 : ∀ s ∈ ms, s.2.2.length ≤ 35184372088832) (ht : wfT ms) (hh : (Lit.int IntKind.u32 h).wf = true) :
    Calls Tryz.prog 4 #[.agg #[.int .u64 E, .slice a ms.length c], .int .u32 h, .int .i64 rf] w fun e w' => e = .returned (.bool true) ∧ Below w.heap.size w w' := by
  have hh' : 0 ≤ h ∧ h < 4294967296 := by
    simp [Lit.wf, IntKind.min, IntKind.max, IntKind.bits, IntKind.signed] at hh
    omega
  refine (replicas_walk E a _ c raw ms h rf w hr hnil rfl hz hz2 ht hh').mono ?_
  rintro e w' ⟨rfl, hg⟩
  exact ⟨rfl, (Below.refl _ w).grown hg (Nat.le_refl _) (fun k hk => by cases hk)⟩
end Go.Proofs.YtaljjemickonaaaGreat

