/- Several texts in one: Kc, Kd, Ke, Ua, Kb. -/
import Derived.Test.YthbodkgcbfplgaaGreatZe
import Derived.Deep.RegionHeld3
import Derived.Test.YthbodkgcbfplgaaGreatZb
import Derived.Test.YthbodkgcbfplgaaGreatZd
/- Package types: what a node's parts are. -/
namespace Go.Proofs.YthbodkgcbfplgaaGreat
open Go.RowKit
set_option linter.unusedVariables false
set_option linter.unusedSimpArgs false
set_option maxRecDepth 20000

/-- A node with its parts. -/
def whA (x : Nd) (m n : Sl) (a : Option Addr) (N c : Nat) : Array Value := #[.int .i64 x.kind, .int .i64 x.op, .string x.text, slV m, .int .i64 x.width, .int .i64 x.back, .int .i64 x.group, slV n, .bool x.bool, .int .i64 x.parts, .slice a N c]
theorem cnt_take {k : Int} {ps : List Int} {i : Nat} {q : Int} (h : ps[i]? = some q) : cntT k (ps.take (i + 1)) = cntT k (ps.take i) + (if q = k then 1 else 0) := by
  unfold cntT
  rw [List.take_add_one, h, List.filter_append, List.length_append]
  by_cases hq : q = k
  · rw [if_pos hq]; simp [hq]
  · rw [if_neg hq]; simp [hq]
theorem cnt_le (k : Int) (ps : List Int) : 0 ≤ cntT k ps ∧ cntT k ps ≤ ps.length := by
  unfold cntT
  have := List.length_filter_le (fun p => decide (p = k)) ps
  omega
theorem f_count (x : Nd) (m n : Sl) (a : Option Addr) (c : Nat) (ps : List Int) (k : Int) (w : World) (h : SRd numE w a ps) (hl : ps.length ≤ 1000) :
    Calls Tryz.prog 72 #[.agg (whA x m n a ps.length c), .int .i64 k] w fun e w' => e = .returned (.int .i64 (cntT k ps)) ∧ w.grownBy w' none := by
  have H := hid h
  have g0 := World.grownBy_alloc w (.cells (whA x m n a ps.length c) 67) none
  have G0 := hid g0
  have HB := hid (heap_alloc_new w (.cells (whA x m n a ps.length c) 67))
  clear h g0
  unfold whA at *
  go_enter Tryz.func72, Tryz.ntmps72
  go_wp2
  go_loopw [11, 5] (fun t11 t5 wr => ∃ i : Nat, i ≤ ps.length ∧ t11 = .int .i64 (i : Int) ∧ t5 = .int .i64 (cntT k (ps.take i)) ∧ w.grownBy wr none) (fun t11 _ _ => ps.length - (intOf t11).toNat)
  case atStart => exact ⟨0, Nat.zero_le _, rfl, rfl, G0.out⟩
  case round =>
    obtain ⟨i, hi, rfl, rfl, hg⟩ := hrel
    have HG := hid hg
    clear hg
    by_cases hlt : i < ps.length
    · have hki : (i : Int) < (ps.length : Int) := by omega
      obtain ⟨q, hq⟩ : ∃ q, ps[i]? = some q := ⟨_, List.getElem?_eq_getElem hlt⟩
      obtain ⟨bb, oo, ea, _⟩ := H.out.at (by omega)
      have hc := num_cell (i := i) (by rw [← ea]; exact H.out.grown HG.out (by simp)) hq
      have HT := hid (cnt_take (k := k) hq)
      have HR := hid (cnt_le k (ps.take i))
      have hr1 : cntT k (ps.take i) ≤ 1000 := by have := HR.out.2; rw [List.length_take] at this; omega
      have hr0 := HR.out.1
      have GA : Hid (w.grownBy (wr.alloc (.cells #[.int .i64 q] 50)) none) := HG.out.trans (World.grownBy_alloc _ _ none)
      subst ea
      clear hq
      by_cases he : q = k
      · have HT2 : Hid (cntT k (ps.take (i + 1)) = cntT k (ps.take i) + 1) := by have := HT.out; rw [if_pos he] at this; exact this
        subst he
        go_wp2
        go_roundw
        case rel => exact ⟨i + 1, by omega, by go_num, by rw [HT2.out], GA.out⟩
        case measure => simp [intOf]; omega
      · have HT2 : Hid (cntT k (ps.take (i + 1)) = cntT k (ps.take i)) := by have := HT.out; rw [if_neg he, Int.add_zero] at this; exact this
        have q0 : (q == k) = false := by simpa using he
        go_wp2
        go_roundw
        case rel => exact ⟨i + 1, by omega, by go_num, by rw [HT2.out], GA.out⟩
        case measure => simp [intOf]; omega
    · have hki : ¬ (i : Int) < (ps.length : Int) := by omega
      obtain rfl : i = ps.length := by omega
      go_wp2
      go_ret
      exact ⟨rfl, HG.out⟩
theorem wh_cells {w : World} {g : Nat} {x : Nd} {m n : Sl} {a : Option Addr} {N c : Nat} (h : w.heap[g]? = some (.cells (whA x m n a N c) 67 (0, 0))) :
    w.cell? ⟨g, 0, none⟩ = some (.int .i64 x.kind) ∧ w.cell? ⟨g, 1, none⟩ = some (.int .i64 x.op) ∧ w.cell? ⟨g, 2, none⟩ = some (.string x.text) ∧ w.cell? ⟨g, 3, none⟩ = some (slV m) ∧ w.cell? ⟨g, 4, none⟩ = some (.int .i64 x.width) ∧ w.cell? ⟨g, 5, none⟩ = some (.int .i64 x.back) ∧ w.cell? ⟨g, 6, none⟩ = some (.int .i64 x.group) ∧ w.cell? ⟨g, 7, none⟩ = some (slV n) ∧ w.cell? ⟨g, 8, none⟩ = some (.bool x.bool) ∧ w.cell? ⟨g, 9, none⟩ = some (.int .i64 x.parts) ∧ w.cell? ⟨g, 10, none⟩ = some (.slice a N c) := by
  unfold whA at h
  refine ⟨?_, ?_, ?_, ?_, ?_, ?_, ?_, ?_, ?_, ?_, ?_⟩ <;> (rw [cell_of_row _ _ _ _ _ _ h]; rfl)
theorem f_areF (x : Nd) (m n : Sl) (a : Option Addr) (c : Nat) (ps : List Int) (W0 : World) (h : SRd numE W0 a ps) (hl : ps.length ≤ 1000) :
    Calls Tryz.prog 57 #[.agg (whA x m n a ps.length c)] W0 fun e w' => e = .returned (.bool (decide (cntT 3 ps = 0))) ∧ W0.grownBy w' none := by
  have g0 := World.grownBy_alloc W0 (.cells (whA x m n a ps.length c) 67) none
  have G0 := hid g0
  have HB := hid (heap_alloc_new W0 (.cells (whA x m n a ps.length c) 67))
  have HC := hid (f_count x m n a c ps 3 _ (h.grown g0 (by simp)) hl)
  clear h g0
  generalize cntT 3 ps = K at HC ⊢
  unfold whA at HC ⊢
  go_enter Tryz.func57, Tryz.ntmps57
  go_wp2_with fail
  refine HC.out.mono ?_
  rintro e w1 ⟨rfl, hg⟩
  have HG := hid (G0.out.trans hg)
  clear hg
  go_wp2
  go_ret
  exact ⟨ret_bool (by rfl), HG.out⟩
theorem f_hasV (x : Nd) (m n : Sl) (a : Option Addr) (c : Nat) (ps : List Int) (W0 : World) (h : SRd numE W0 a ps) (hl : ps.length ≤ 1000) :
    Calls Tryz.prog 58 #[.agg (whA x m n a ps.length c)] W0 fun e w' => e = .returned (.bool (decide (0 < cntT 2 ps))) ∧ W0.grownBy w' none := by
  have g0 := World.grownBy_alloc W0 (.cells (whA x m n a ps.length c) 67) none
  have G0 := hid g0
  have HB := hid (heap_alloc_new W0 (.cells (whA x m n a ps.length c) 67))
  have HC := hid (f_count x m n a c ps 2 _ (h.grown g0 (by simp)) hl)
  clear h g0
  generalize cntT 2 ps = K at HC ⊢
  unfold whA at HC ⊢
  go_enter Tryz.func58, Tryz.ntmps58
  go_wp2_with fail
  refine HC.out.mono ?_
  rintro e w1 ⟨rfl, hg⟩
  have HG := hid (G0.out.trans hg)
  clear hg
  go_wp2
  go_ret
  exact ⟨ret_bool (by rfl), HG.out⟩
theorem f_areV (x : Nd) (m n : Sl) (a : Option Addr) (c : Nat) (ps : List Int) (W0 : World) (h : SRd numE W0 a ps) (hl : ps.length ≤ 1000) :
    Calls Tryz.prog 54 #[.agg (whA x m n a ps.length c)] W0 fun e w' => e = .returned (.bool (decide (cntT 2 ps = x.parts))) ∧ W0.grownBy w' none := by
  have g0 := World.grownBy_alloc W0 (.cells (whA x m n a ps.length c) 67) none
  have G0 := hid g0
  have HB := hid (heap_alloc_new W0 (.cells (whA x m n a ps.length c) 67))
  have GD := hid (gb_drew (World.grownBy.refl (W0.alloc (.cells (whA x m n a ps.length c) 67)) none))
  have HC := hid (f_count x m n a c ps 2 (W0.alloc (.cells (whA x m n a ps.length c) 67)).drew (h.grown (g0.trans GD.out) (by simp)) hl)
  clear h g0
  generalize cntT 2 ps = K at HC ⊢
  have HBX := HB
  unfold whA at HC GD HBX ⊢
  go_enter Tryz.func54, Tryz.ntmps54
  go_upto_region 1 with fail
  refine wp_region_held_drew (S := fun V => (W0.alloc (.cells #[.int .i64 x.kind, .int .i64 x.op, .string x.text, slV m, .int .i64 x.width, .int .i64 x.back, .int .i64 x.group, slV n, .bool x.bool, .int .i64 x.parts, .slice a ps.length c] 67)).grownBy V none) (by kernel_rfl) GD.out (fun hHeld => ?_)
  refine wpAnyH_take (i := 0) (v := .agg #[.int .i64 x.kind, .int .i64 x.op, .string x.text, slV m, .int .i64 x.width, .int .i64 x.back, .int .i64 x.group, slV n, .bool x.bool, .int .i64 x.parts, .slice a ps.length c]) rfl (by kernel_rfl) (by kernel_rfl) (by kernel_rfl) (fun _ _ _ h => h) (Or.inl ⟨by rfl, fun w hSw => ?_⟩) (by assumption) ?_
  · obtain ⟨c0, c1, c2, c3, c4, c5, c6, c7, c8, c9, c10⟩ := wh_cells ((hSw.block W0.heap.size (by rw [size_alloc]; omega) (by simp)).trans HB.out); go_simp
  (try simp (maxSteps := 10000000) only [Act.put]); (try simp (maxSteps := 10000000) only [List.setIfInBounds_toArray]); (try simp (maxSteps := 10000000) only [List.set_cons_succ]); (try simp (maxSteps := 10000000) only [List.set_cons_zero])
  refine wpAnyH_take (i := 2) (v := .pointer (some ⟨W0.heap.size, 0, none⟩)) rfl (by kernel_rfl) (by kernel_rfl) (by kernel_rfl) (fun _ _ _ h => h) (Or.inl ⟨by rfl, fun w hSw => ?_⟩) (by assumption) ?_
  · go_simp
  (try simp (maxSteps := 10000000) only [Act.put]); (try simp (maxSteps := 10000000) only [List.setIfInBounds_toArray]); (try simp (maxSteps := 10000000) only [List.set_cons_succ]); (try simp (maxSteps := 10000000) only [List.set_cons_zero])
  refine wpAnyH_take (i := 3) (v := .pointer (some ⟨W0.heap.size, 9, none⟩)) rfl (by kernel_rfl) (by kernel_rfl) (by kernel_rfl) (fun _ _ _ h => h) (Or.inl ⟨by rfl, fun w hSw => ?_⟩) (by assumption) ?_
  · go_simp
  (try simp (maxSteps := 10000000) only [Act.put]); (try simp (maxSteps := 10000000) only [List.setIfInBounds_toArray]); (try simp (maxSteps := 10000000) only [List.set_cons_succ]); (try simp (maxSteps := 10000000) only [List.set_cons_zero])
  refine wpAnyH_take (i := 4) (v := .int .i64 x.parts) rfl (by kernel_rfl) (by kernel_rfl) (by kernel_rfl) (fun _ _ _ h => h) (Or.inl ⟨by rfl, fun w hSw => ?_⟩) (by assumption) ?_
  · obtain ⟨c0, c1, c2, c3, c4, c5, c6, c7, c8, c9, c10⟩ := wh_cells ((hSw.block W0.heap.size (by rw [size_alloc]; omega) (by simp)).trans HB.out); go_simp
  (try simp (maxSteps := 10000000) only [Act.put]); (try simp (maxSteps := 10000000) only [List.setIfInBounds_toArray]); (try simp (maxSteps := 10000000) only [List.set_cons_succ]); (try simp (maxSteps := 10000000) only [List.set_cons_zero])
  refine wpAnyH_ready (rs := [1]) (by kernel_rfl) (by simp) (AllReadyH.cons (i := 1) rfl (fun K9 hK => ?_) AllReadyH.nil)
  go_simp
  refine HC.out.mono ?_
  rintro e w1 ⟨rfl, hg⟩
  have s1 := GD.out.trans hg
  clear hg
  refine hK.out _ _ s1 (fun hHeld => ?_)
  clear hK K9 hHeld
  (try simp (maxSteps := 10000000) only [Act.put]); (try simp (maxSteps := 10000000) only [List.setIfInBounds_toArray]); (try simp (maxSteps := 10000000) only [List.set_cons_succ]); (try simp (maxSteps := 10000000) only [List.set_cons_zero])
  refine wpAnyH_ready (rs := [5]) (by kernel_rfl) (by simp) (AllReadyH.cons (i := 5) rfl (fun K9 hK => ?_) AllReadyH.nil)
  go_simp
  refine hK.out _ _ s1 (fun hHeld => ?_)
  clear hK K9 hHeld
  (try simp (maxSteps := 10000000) only [Act.put]); (try simp (maxSteps := 10000000) only [List.setIfInBounds_toArray]); (try simp (maxSteps := 10000000) only [List.set_cons_succ]); (try simp (maxSteps := 10000000) only [List.set_cons_zero])
  refine wpAnyH_ready (rs := [6]) (by kernel_rfl) (by simp) (AllReadyH.cons (i := 6) rfl (fun K9 hK => ?_) AllReadyH.nil)
  go_simp
  refine hK.out _ _ s1 (fun hHeld => ?_)
  clear hK K9 hHeld
  (try simp (maxSteps := 10000000) only [Act.put]); (try simp (maxSteps := 10000000) only [List.setIfInBounds_toArray]); (try simp (maxSteps := 10000000) only [List.set_cons_succ]); (try simp (maxSteps := 10000000) only [List.set_cons_zero])
  refine wpAnyH_done (by kernel_rfl) ?_ _
  go_wp2
  go_ret
  exact ⟨ret_bool (by rfl), G0.out.trans s1⟩
theorem f_areR (x : Nd) (m n : Sl) (a : Option Addr) (c : Nat) (ps : List Int) (W0 : World) (h : SRd numE W0 a ps) (hl : ps.length ≤ 1000) :
    Calls Tryz.prog 55 #[.agg (whA x m n a ps.length c)] W0 fun e w' => e = .returned (.bool (decide (cntT 3 ps = x.parts))) ∧ W0.grownBy w' none := by
  have g0 := World.grownBy_alloc W0 (.cells (whA x m n a ps.length c) 67) none
  have G0 := hid g0
  have HB := hid (heap_alloc_new W0 (.cells (whA x m n a ps.length c) 67))
  have GD := hid (gb_drew (World.grownBy.refl (W0.alloc (.cells (whA x m n a ps.length c) 67)) none))
  have HC := hid (f_count x m n a c ps 3 (W0.alloc (.cells (whA x m n a ps.length c) 67)).drew (h.grown (g0.trans GD.out) (by simp)) hl)
  clear h g0
  generalize cntT 3 ps = K at HC ⊢
  have HBX := HB
  unfold whA at HC GD HBX ⊢
  go_enter Tryz.func55, Tryz.ntmps55
  go_upto_region 1 with fail
  refine wp_region_held_drew (S := fun V => (W0.alloc (.cells #[.int .i64 x.kind, .int .i64 x.op, .string x.text, slV m, .int .i64 x.width, .int .i64 x.back, .int .i64 x.group, slV n, .bool x.bool, .int .i64 x.parts, .slice a ps.length c] 67)).grownBy V none) (by kernel_rfl) GD.out (fun hHeld => ?_)
  refine wpAnyH_take (i := 0) (v := .agg #[.int .i64 x.kind, .int .i64 x.op, .string x.text, slV m, .int .i64 x.width, .int .i64 x.back, .int .i64 x.group, slV n, .bool x.bool, .int .i64 x.parts, .slice a ps.length c]) rfl (by kernel_rfl) (by kernel_rfl) (by kernel_rfl) (fun _ _ _ h => h) (Or.inl ⟨by rfl, fun w hSw => ?_⟩) (by assumption) ?_
  · obtain ⟨c0, c1, c2, c3, c4, c5, c6, c7, c8, c9, c10⟩ := wh_cells ((hSw.block W0.heap.size (by rw [size_alloc]; omega) (by simp)).trans HB.out); go_simp
  (try simp (maxSteps := 10000000) only [Act.put]); (try simp (maxSteps := 10000000) only [List.setIfInBounds_toArray]); (try simp (maxSteps := 10000000) only [List.set_cons_succ]); (try simp (maxSteps := 10000000) only [List.set_cons_zero])
  refine wpAnyH_take (i := 2) (v := .pointer (some ⟨W0.heap.size, 0, none⟩)) rfl (by kernel_rfl) (by kernel_rfl) (by kernel_rfl) (fun _ _ _ h => h) (Or.inl ⟨by rfl, fun w hSw => ?_⟩) (by assumption) ?_
  · go_simp
  (try simp (maxSteps := 10000000) only [Act.put]); (try simp (maxSteps := 10000000) only [List.setIfInBounds_toArray]); (try simp (maxSteps := 10000000) only [List.set_cons_succ]); (try simp (maxSteps := 10000000) only [List.set_cons_zero])
  refine wpAnyH_take (i := 3) (v := .pointer (some ⟨W0.heap.size, 9, none⟩)) rfl (by kernel_rfl) (by kernel_rfl) (by kernel_rfl) (fun _ _ _ h => h) (Or.inl ⟨by rfl, fun w hSw => ?_⟩) (by assumption) ?_
  · go_simp
  (try simp (maxSteps := 10000000) only [Act.put]); (try simp (maxSteps := 10000000) only [List.setIfInBounds_toArray]); (try simp (maxSteps := 10000000) only [List.set_cons_succ]); (try simp (maxSteps := 10000000) only [List.set_cons_zero])
  refine wpAnyH_take (i := 4) (v := .int .i64 x.parts) rfl (by kernel_rfl) (by kernel_rfl) (by kernel_rfl) (fun _ _ _ h => h) (Or.inl ⟨by rfl, fun w hSw => ?_⟩) (by assumption) ?_
  · obtain ⟨c0, c1, c2, c3, c4, c5, c6, c7, c8, c9, c10⟩ := wh_cells ((hSw.block W0.heap.size (by rw [size_alloc]; omega) (by simp)).trans HB.out); go_simp
  (try simp (maxSteps := 10000000) only [Act.put]); (try simp (maxSteps := 10000000) only [List.setIfInBounds_toArray]); (try simp (maxSteps := 10000000) only [List.set_cons_succ]); (try simp (maxSteps := 10000000) only [List.set_cons_zero])
  refine wpAnyH_ready (rs := [1]) (by kernel_rfl) (by simp) (AllReadyH.cons (i := 1) rfl (fun K9 hK => ?_) AllReadyH.nil)
  go_simp
  refine HC.out.mono ?_
  rintro e w1 ⟨rfl, hg⟩
  have s1 := GD.out.trans hg
  clear hg
  refine hK.out _ _ s1 (fun hHeld => ?_)
  clear hK K9 hHeld
  (try simp (maxSteps := 10000000) only [Act.put]); (try simp (maxSteps := 10000000) only [List.setIfInBounds_toArray]); (try simp (maxSteps := 10000000) only [List.set_cons_succ]); (try simp (maxSteps := 10000000) only [List.set_cons_zero])
  refine wpAnyH_ready (rs := [5]) (by kernel_rfl) (by simp) (AllReadyH.cons (i := 5) rfl (fun K9 hK => ?_) AllReadyH.nil)
  go_simp
  refine hK.out _ _ s1 (fun hHeld => ?_)
  clear hK K9 hHeld
  (try simp (maxSteps := 10000000) only [Act.put]); (try simp (maxSteps := 10000000) only [List.setIfInBounds_toArray]); (try simp (maxSteps := 10000000) only [List.set_cons_succ]); (try simp (maxSteps := 10000000) only [List.set_cons_zero])
  refine wpAnyH_ready (rs := [6]) (by kernel_rfl) (by simp) (AllReadyH.cons (i := 6) rfl (fun K9 hK => ?_) AllReadyH.nil)
  go_simp
  refine hK.out _ _ s1 (fun hHeld => ?_)
  clear hK K9 hHeld
  (try simp (maxSteps := 10000000) only [Act.put]); (try simp (maxSteps := 10000000) only [List.setIfInBounds_toArray]); (try simp (maxSteps := 10000000) only [List.set_cons_succ]); (try simp (maxSteps := 10000000) only [List.set_cons_zero])
  refine wpAnyH_done (by kernel_rfl) ?_ _
  go_wp2
  go_ret
  exact ⟨ret_bool (by rfl), G0.out.trans s1⟩
end Go.Proofs.YthbodkgcbfplgaaGreat

/- Package types: what a node wants of its parts; its type; its refusal. -/
namespace Go.Proofs.YthbodkgcbfplgaaGreat
open Go.RowKit
set_option linter.unusedVariables false
set_option linter.unusedSimpArgs false
set_option maxRecDepth 20000

theorem f_some (x : Nd) (m n : Sl) (a : Option Addr) (c : Nat) (ps : List Int) (W0 : World) (h : SRd numE W0 a ps) (hl : ps.length ≤ 1000) :
    Calls Tryz.prog 74 #[.agg (whA x m n a ps.length c)] W0 fun e w' => e = .returned (.bool (floats ps && decide (0 < cntT 2 ps))) ∧ W0.grownBy w' none := by
  have g0 := World.grownBy_alloc W0 (.cells (whA x m n a ps.length c) 67) none
  have G0 := hid g0
  have HB := hid (heap_alloc_new W0 (.cells (whA x m n a ps.length c) 67))
  have HF := hid (f_areF x m n a c ps _ (h.grown g0 (by simp)) hl)
  have HV : Hid (∀ w, (W0.alloc (.cells (whA x m n a ps.length c) 67)).grownBy w none → Calls Tryz.prog 58 #[.agg (whA x m n a ps.length c)] w fun e w' => e = .returned (.bool (decide (0 < cntT 2 ps))) ∧ w.grownBy w' none) := fun w hg => f_hasV x m n a c ps w (h.grown (g0.trans hg) (by simp)) hl
  have hsz := size_alloc W0 (.cells (whA x m n a ps.length c) 67)
  have HZ : Hid (W0.heap.size < (W0.alloc (.cells (whA x m n a ps.length c) 67)).heap.size) := by show _ < _; omega
  clear h g0 hsz
  unfold floats
  generalize decide (cntT 3 ps = 0) = b at HF ⊢
  generalize decide (0 < cntT 2 ps) = d at HV ⊢
  have HBX := HB
  unfold whA at HF HV HBX ⊢
  cases b with
  | false =>
    go_enter Tryz.func74, Tryz.ntmps74
    go_wp2_with fail
    refine HF.out.mono ?_
    rintro e w1 ⟨rfl, hg⟩
    have HG := hid (G0.out.trans hg)
    clear hg
    go_wp2
    go_ret
    exact ⟨rfl, HG.out⟩
  | true =>
    go_enter Tryz.func74, Tryz.ntmps74
    go_wp2_with fail
    refine HF.out.mono ?_
    rintro e w1 ⟨rfl, hg⟩
    have HG := hid hg
    obtain ⟨c0, c1, c2, c3, c4, c5, c6, c7, c8, c9, c10⟩ := wh_cells ((hg.block W0.heap.size HZ.out (by simp)).trans HB.out)
    clear hg
    go_wp2_with fail
    refine (HV.out _ HG.out).mono ?_
    rintro e w2 ⟨rfl, hg2⟩
    have HG2 := hid (G0.out.trans (HG.out.trans hg2))
    clear hg2
    go_wp2
    go_ret
    exact ⟨by simp, HG2.out⟩
theorem f_isSet (n : Int) (w : World) : Calls Tryz.prog 73 #[.int .i64 n] w fun e w' => e = .returned (.bool (setB n)) ∧ w' = w := by
  unfold setB
  by_cases h : 11 ≤ n
  · have q0 : decide (11 ≤ n) = true := by simpa using h
    have Q0 := hid q0
    clear h
    go_enter Tryz.func73, Tryz.ntmps73
    go_wp2
    go_ret
    exact ⟨ret_bool (by rw [Q0.out, Bool.true_and]), rfl⟩
  · have q0 : decide (11 ≤ n) = false := by simpa using h
    have Q0 := hid q0
    clear h
    go_enter Tryz.func73, Tryz.ntmps73
    go_wp2
    go_ret
    exact ⟨ret_bool (by rw [Q0.out, Bool.false_and]), rfl⟩
theorem f_isCmpT (n : Int) (w : World) : Calls Tryz.prog 52 #[.int .i64 n] w fun e w' => e = .returned (.bool (cmpT n)) ∧ w' = w := by
  unfold cmpT
  by_cases h : 5 ≤ n
  · have q0 : decide (5 ≤ n) = true := by simpa using h
    have Q0 := hid q0
    clear h
    go_enter Tryz.func52, Tryz.ntmps52
    go_wp2
    go_ret
    exact ⟨ret_bool (by rw [Q0.out, Bool.true_and]), rfl⟩
  · have q0 : decide (5 ≤ n) = false := by simpa using h
    have Q0 := hid q0
    clear h
    go_enter Tryz.func52, Tryz.ntmps52
    go_wp2
    go_ret
    exact ⟨ret_bool (by rw [Q0.out, Bool.false_and]), rfl⟩
/-- Which method is wanted. -/
def bothFn (x : Nd) : Nat := if setB x.op = true ∨ x.group ≠ 0 then 54 else if cmpT x.op = true ∧ x.bool = false then 74 else 57
def wantFn (x : Nd) : Nat := if x.kind = 4 then (if x.op = 11 ∨ x.op = 12 then 54 else 55) else if x.kind = 5 then 54 else if x.kind = 6 then bothFn x else 57
/-- What is wanted, asked. -/
theorem f_want (x : Nd) (m n : Sl) (a : Option Addr) (c : Nat) (ps : List Int) (W0 : World) (h : SRd numE W0 a ps) (hl : ps.length ≤ 1000) :
    Calls Tryz.prog (wantFn x) #[.agg (whA x m n a ps.length c)] W0 fun e w' => e = .returned (.bool (wantsB x ps)) ∧ W0.grownBy w' none := by
  have hV := f_areV x m n a c ps W0 h hl
  have hR := f_areR x m n a c ps W0 h hl
  have hF := f_areF x m n a c ps W0 h hl
  have hS := f_some x m n a c ps W0 h hl
  unfold wantFn wantsB bothFn
  split
  · split
    · exact hV
    · exact hR
  · split
    · exact hV
    · split
      · split
        · exact hV
        · split
          · exact hS
          · exact hF
      · exact hF
theorem f_both (x : Nd) (m n : Sl) (a : Option Addr) (N c : Nat) (W0 : World) :
    Calls Tryz.prog 56 #[.agg (whA x m n a N c)] W0 fun e w' => e = .returned (.func (.func (bothFn x)) #[.agg (whA x m n a N c)] #[]) ∧ W0.grownBy w' none := by
  have G0 := hid (World.grownBy_alloc W0 (.cells (whA x m n a N c) 67) none)
  have HS : Hid (∀ w, Calls Tryz.prog 73 #[.int .i64 x.op] w fun e w' => e = .returned (.bool (setB x.op)) ∧ w' = w) := fun w => f_isSet _ w
  have HC : Hid (∀ w, Calls Tryz.prog 52 #[.int .i64 x.op] w fun e w' => e = .returned (.bool (cmpT x.op)) ∧ w' = w) := fun w => f_isCmpT _ w
  unfold bothFn
  generalize setB x.op = s at HS ⊢
  generalize cmpT x.op = t at HC ⊢
  unfold whA
  cases s with
  | true =>
    rw [if_pos (.inl rfl)]
    go_enter Tryz.func56, Tryz.ntmps56
    go_wp2_with fail
    refine (HS.out _).mono ?_
    rintro e w1 ⟨rfl, rfl⟩
    go_wp2
    go_ret
    exact ⟨rfl, G0.out⟩
  | false =>
    by_cases hg : x.group = 0
    · rw [if_neg (by simp [hg])]
      have q0 : (x.group != 0) = false := by simp [hg]
      clear hg
      cases t with
      | false =>
        rw [if_neg (by simp)]
        go_enter Tryz.func56, Tryz.ntmps56
        go_wp2_with fail
        refine (HS.out _).mono ?_
        rintro e w1 ⟨rfl, rfl⟩
        go_wp2_with fail
        refine (HC.out _).mono ?_
        rintro e w1 ⟨rfl, rfl⟩
        go_wp2
        go_ret
        exact ⟨rfl, G0.out⟩
      | true =>
        obtain ⟨kd, op, tx, ma, wi, ba, gr, na, bo, pa⟩ := x
        simp only at *
        cases bo with
        | false =>
          rw [if_pos (by simp)]
          go_enter Tryz.func56, Tryz.ntmps56
          go_wp2_with fail
          refine (HS.out _).mono ?_
          rintro e w1 ⟨rfl, rfl⟩
          go_wp2_with fail
          refine (HC.out _).mono ?_
          rintro e w1 ⟨rfl, rfl⟩
          go_wp2
          go_ret
          exact ⟨rfl, G0.out⟩
        | true =>
          rw [if_neg (by simp)]
          go_enter Tryz.func56, Tryz.ntmps56
          go_wp2_with fail
          refine (HS.out _).mono ?_
          rintro e w1 ⟨rfl, rfl⟩
          go_wp2_with fail
          refine (HC.out _).mono ?_
          rintro e w1 ⟨rfl, rfl⟩
          go_wp2
          go_ret
          exact ⟨rfl, G0.out⟩
    · rw [if_pos (.inr hg)]
      have q0 : (x.group != 0) = true := by simp [hg]
      clear hg
      go_enter Tryz.func56, Tryz.ntmps56
      go_wp2_with fail
      refine (HS.out _).mono ?_
      rintro e w1 ⟨rfl, rfl⟩
      go_wp2
      go_ret
      exact ⟨rfl, G0.out⟩
theorem f_wants (x : Nd) (m n : Sl) (a : Option Addr) (N c : Nat) (W0 : World) :
    Calls Tryz.prog 32 #[.agg (whA x m n a N c)] W0 fun e w' => e = .returned (.func (.func (wantFn x)) #[.agg (whA x m n a N c)] #[]) ∧ W0.grownBy w' none := by
  have G0 := hid (World.grownBy_alloc W0 (.cells (whA x m n a N c) 67) none)
  have HBO : Hid (∀ w, Calls Tryz.prog 56 #[.agg (whA x m n a N c)] w fun e w' => e = .returned (.func (.func (bothFn x)) #[.agg (whA x m n a N c)] #[]) ∧ w.grownBy w' none) := fun w => f_both x m n a N c w
  unfold wantFn
  by_cases h4 : x.kind = 4
  · rw [if_pos h4]
    have q4 : (x.kind == 4) = true := by simp [h4]
    clear h4 HBO
    unfold whA
    by_cases h11 : x.op = 11
    · rw [if_pos (.inl h11)]
      have q0 : (x.op == 11) = true := by simp [h11]
      clear h11
      go_enter Tryz.func32, Tryz.ntmps32
      go_wp2
      go_ret
      exact ⟨rfl, G0.out⟩
    · have q0 : (x.op == 11) = false := by simp [h11]
      by_cases h12 : x.op = 12
      · rw [if_pos (.inr h12)]
        have q1 : (x.op == 12) = true := by simp [h12]
        clear h11 h12
        go_enter Tryz.func32, Tryz.ntmps32
        go_wp2
        go_ret
        exact ⟨rfl, G0.out⟩
      · rw [if_neg (by simp [h11, h12])]
        have q1 : (x.op == 12) = false := by simp [h12]
        clear h11 h12
        go_enter Tryz.func32, Tryz.ntmps32
        go_wp2
        go_ret
        exact ⟨rfl, G0.out⟩
  · rw [if_neg h4]
    have q4 : (x.kind == 4) = false := by simp [h4]
    clear h4
    by_cases h5 : x.kind = 5
    · rw [if_pos h5]
      have q5 : (x.kind == 5) = true := by simp [h5]
      clear h5 HBO
      unfold whA
      go_enter Tryz.func32, Tryz.ntmps32
      go_wp2
      go_ret
      exact ⟨rfl, G0.out⟩
    · rw [if_neg h5]
      have q5 : (x.kind == 5) = false := by simp [h5]
      clear h5
      by_cases h6 : x.kind = 6
      · rw [if_pos h6]
        have q6 : (x.kind == 6) = true := by simp [h6]
        clear h6
        unfold whA at HBO ⊢
        go_enter Tryz.func32, Tryz.ntmps32
        go_wp2_with fail
        refine (HBO.out _).mono ?_
        rintro e w1 ⟨rfl, hg⟩
        have HG := hid (G0.out.trans hg)
        clear hg
        go_wp2
        go_ret
        exact ⟨rfl, HG.out⟩
      · rw [if_neg h6]
        have q6 : (x.kind == 6) = false := by simp [h6]
        clear h6 HBO
        unfold whA
        go_enter Tryz.func32, Tryz.ntmps32
        go_wp2
        go_ret
        exact ⟨rfl, G0.out⟩
theorem f_refusal (x : Nd) (m n : Sl) (a : Option Addr) (N c : Nat) (W0 : World) :
    Calls Tryz.prog 33 #[.agg (whA x m n a N c)] W0 fun e w' => e = .returned (.int .i64 (if x.kind = 6 then 192 else 191)) ∧ W0.grownBy w' none := by
  have G0 := hid (World.grownBy_alloc W0 (.cells (whA x m n a N c) 67) none)
  unfold whA
  by_cases h6 : x.kind = 6
  · rw [if_pos h6]
    have q6 : (x.kind == 6) = true := by simp [h6]
    clear h6
    go_enter Tryz.func33, Tryz.ntmps33
    go_wp2
    go_ret
    exact ⟨rfl, G0.out⟩
  · rw [if_neg h6]
    have q6 : (x.kind == 6) = false := by simp [h6]
    clear h6
    go_enter Tryz.func33, Tryz.ntmps33
    go_wp2
    go_ret
    exact ⟨rfl, G0.out⟩
theorem f_kind (x : Nd) (m n : Sl) (a : Option Addr) (c : Nat) (ps : List Int) (W0 : World) (h : SRd numE W0 a ps) (hl : ps.length ≤ 1000) :
    Calls Tryz.prog 34 #[.agg (whA x m n a ps.length c)] W0 fun e w' => e = .returned (.int .i64 (kindT x ps)) ∧ W0.grownBy w' none := by
  have g0 := World.grownBy_alloc W0 (.cells (whA x m n a ps.length c) 67) none
  have G0 := hid g0
  have HV := hid (f_hasV x m n a c ps _ (h.grown g0 (by simp)) hl)
  clear h g0
  unfold kindT
  by_cases h1 : x.kind = 1
  · rw [if_pos h1]
    have q1 : (x.kind == 1) = true := by simp [h1]
    clear h1 HV
    unfold whA
    go_enter Tryz.func34, Tryz.ntmps34
    go_wp2
    go_ret
    exact ⟨rfl, G0.out⟩
  · rw [if_neg h1]
    have q1 : (x.kind == 1) = false := by simp [h1]
    clear h1
    by_cases h3 : x.kind = 3
    · rw [if_pos h3]
      have q3 : (x.kind == 3) = true := by simp [h3]
      clear h3 HV
      unfold whA
      go_enter Tryz.func34, Tryz.ntmps34
      go_wp2
      go_ret
      exact ⟨rfl, G0.out⟩
    · rw [if_neg h3]
      have q3 : (x.kind == 3) = false := by simp [h3]
      clear h3
      by_cases h7 : x.kind = 7
      · have q7 : (x.kind == 7) = true := by simp [h7]
        by_cases hv : 0 < cntT 2 ps
        · rw [if_neg (by simp [hv])]
          rw [decide_eq_true hv] at HV
          clear h7 hv
          unfold whA at HV ⊢
          go_enter Tryz.func34, Tryz.ntmps34
          go_wp2_with fail
          refine HV.out.mono ?_
          rintro e w1 ⟨rfl, hg⟩
          have HG := hid (G0.out.trans hg)
          clear hg
          go_wp2
          go_ret
          exact ⟨rfl, HG.out⟩
        · rw [if_pos ⟨.inl h7, hv⟩]
          rw [decide_eq_false hv] at HV
          clear h7 hv
          unfold whA at HV ⊢
          go_enter Tryz.func34, Tryz.ntmps34
          go_wp2_with fail
          refine HV.out.mono ?_
          rintro e w1 ⟨rfl, hg⟩
          have HG := hid (G0.out.trans hg)
          clear hg
          go_wp2
          go_ret
          exact ⟨rfl, HG.out⟩
      · have q7 : (x.kind == 7) = false := by simp [h7]
        by_cases h6 : x.kind = 6
        · have q6 : (x.kind == 6) = true := by simp [h6]
          by_cases hv : 0 < cntT 2 ps
          · rw [if_neg (by simp [hv])]
            rw [decide_eq_true hv] at HV
            clear h7 h6 hv
            unfold whA at HV ⊢
            go_enter Tryz.func34, Tryz.ntmps34
            go_wp2_with fail
            refine HV.out.mono ?_
            rintro e w1 ⟨rfl, hg⟩
            have HG := hid (G0.out.trans hg)
            clear hg
            go_wp2
            go_ret
            exact ⟨rfl, HG.out⟩
          · rw [if_pos ⟨.inr h6, hv⟩]
            rw [decide_eq_false hv] at HV
            clear h7 h6 hv
            unfold whA at HV ⊢
            go_enter Tryz.func34, Tryz.ntmps34
            go_wp2_with fail
            refine HV.out.mono ?_
            rintro e w1 ⟨rfl, hg⟩
            have HG := hid (G0.out.trans hg)
            clear hg
            go_wp2
            go_ret
            exact ⟨rfl, HG.out⟩
        · rw [if_neg (by simp [h7, h6])]
          have q6 : (x.kind == 6) = false := by simp [h6]
          clear h7 h6 HV
          unfold whA
          go_enter Tryz.func34, Tryz.ntmps34
          go_wp2
          go_ret
          exact ⟨rfl, G0.out⟩
end Go.Proofs.YthbodkgcbfplgaaGreat

/- Package types: what the fields of a kind may be. -/
namespace Go.Proofs.YthbodkgcbfplgaaGreat
open Go.RowKit
set_option linter.unusedVariables false
set_option linter.unusedSimpArgs false
set_option maxRecDepth 20000

/-- A form's cells. -/
def foA (f : Fo) : Array Value := #[.bool f.number, .bool f.asks, .bool f.compare, .int .i64 f.ops.1, .int .i64 f.ops.2, .int .i64 f.widths.1, .int .i64 f.widths.2, .int .i64 f.backs.1, .int .i64 f.backs.2, .int .i64 f.groups.1, .int .i64 f.groups.2, .int .i64 f.parts]
def spA (p : Int × Int) : Array Value := #[.int .i64 p.1, .int .i64 p.2]
theorem f_has (p : Int × Int) (k : Int) (w : World) : Calls Tryz.prog 49 #[.agg (spA p), .int .i64 k] w fun e w' => e = .returned (.bool (inB p k)) ∧ w.grownBy w' none := by
  have G0 := hid (World.grownBy_alloc w (.cells (spA p) 81) none)
  unfold inB
  unfold spA at *
  by_cases h : p.1 ≤ k
  · have q0 : decide (p.1 ≤ k) = true := by simpa using h
    have Q0 := hid q0
    clear h
    go_enter Tryz.func49, Tryz.ntmps49
    go_wp2
    go_ret
    exact ⟨ret_bool (by rw [Q0.out, Bool.true_and]), G0.out⟩
  · have q0 : decide (p.1 ≤ k) = false := by simpa using h
    have Q0 := hid q0
    clear h
    go_enter Tryz.func49, Tryz.ntmps49
    go_wp2
    go_ret
    exact ⟨ret_bool (by rw [Q0.out, Bool.false_and]), G0.out⟩
theorem sz83 : (Tryz.prog.info? 83).map (·.size) = some 12 := by kernel_rfl
theorem f_formOf (k : Int) (w : World) : Calls Tryz.prog 48 #[.int .i64 k] w fun e w' => e = .returned (.tuple #[.agg (foA (foOf k)), .bool (kindB k)]) ∧ w.grownBy w' none := by
  by_cases h : k = 1 ∨ k = 2 ∨ k = 3 ∨ k = 4 ∨ k = 5 ∨ k = 6 ∨ k = 7
  · rcases h with rfl | rfl | rfl | rfl | rfl | rfl | rfl
    all_goals
      go_enter Tryz.func48, Tryz.ntmps48
      go_wp2
      exact bodyPost_ret (v := .tuple #[.agg (foA (foOf _)), .bool true]) (results_row_tmp Tryz.results48 _ _ _ w.heap.size 83 _ (0, 0) _ rfl (heap_alloc_new w _) Tryz.underlying83 sz83) rfl ⟨rfl, World.grownBy_alloc _ _ none⟩
  · have e1 : foOf k = noneF := by unfold foOf; rw [if_neg (by omega), if_neg (by omega), if_neg (by omega), if_neg (by omega), if_neg (by omega), if_neg (by omega), if_neg (by omega)]
    have e2 : kindB k = false := by
      unfold kindB
      by_cases h1 : 1 ≤ k
      · rw [decide_eq_false (by omega : ¬ k ≤ 7)]; simp
      · rw [decide_eq_false h1]; rfl
    rw [e1, e2]
    have h1 : k ≠ 1 := by omega
    have h2 : k ≠ 2 := by omega
    have h3 : k ≠ 3 := by omega
    have h4 : k ≠ 4 := by omega
    have h5 : k ≠ 5 := by omega
    have h6 : k ≠ 6 := by omega
    have h7 : k ≠ 7 := by omega
    clear h e1 e2
    go_enter Tryz.func48, Tryz.ntmps48
    go_wp2
    exact bodyPost_ret (v := .tuple #[.agg (foA noneF), .bool false]) (results_row_tmp Tryz.results48 _ _ _ w.heap.size 83 _ (0, 0) _ rfl (heap_alloc_new w _) Tryz.underlying83 sz83) rfl ⟨rfl, World.grownBy_alloc _ _ none⟩
end Go.Proofs.YthbodkgcbfplgaaGreat

/- ParseTotal: its maths: each part is found, each place lies in the text. -/
namespace Go.Proofs.YthbodkgcbfplgaaGreat
open Go.RowKit
set_option linter.unusedVariables false
set_option linter.unusedSimpArgs false
set_option maxRecDepth 20000

/-- How many parts a kind of node has; -1: no kind. -/
def partsK (k : Int) : Int := if k = 1 ∨ k = 2 ∨ k = 3 then 0 else if k = 4 ∨ k = 5 ∨ k = 7 then 1 else if k = 6 then 2 else -1
/-- How many trees lie there behind these nodes, where so many lay ahead; -1: a part isn't found. -/
def runK : Int → List Nd → Int
  | n, [] => n
  | n, x :: r => if partsK x.kind < 0 ∨ partsK x.kind > n ∨ x.parts ≠ partsK x.kind then -1 else runK (n - partsK x.kind + 1) r
theorem runK_cons (n : Int) (x : Nd) (r : List Nd) : runK n (x :: r) = if partsK x.kind < 0 ∨ partsK x.kind > n ∨ x.parts ≠ partsK x.kind then -1 else runK (n - partsK x.kind + 1) r := rfl
theorem runK_one {n : Int} {x : Nd} (h0 : 0 ≤ partsK x.kind) (h1 : partsK x.kind ≤ n) (h2 : x.parts = partsK x.kind) : runK n [x] = n - partsK x.kind + 1 := by
  unfold runK
  rw [if_neg (by omega)]
  rfl
theorem runK_app : ∀ (a b : List Nd) (n : Int), 0 ≤ n → 0 ≤ runK n a → runK n (a ++ b) = runK (runK n a) b := by
  intro a
  induction a with
  | nil => intro b n _ _; rfl
  | cons x r ih =>
    intro b n hn h
    rw [List.cons_append, runK_cons, runK_cons]
    rw [runK_cons] at h
    split at h
    · omega
    · rename_i hx
      rw [if_neg hx, if_neg hx]
      exact ih b _ (by omega) h
/-- One tree more. -/
def Tree (a : List Nd) : Prop := ∀ n : Int, 0 ≤ n → runK n a = n + 1
/-- As many trees, if there is one. -/
def Tail (a : List Nd) : Prop := ∀ n : Int, 1 ≤ n → runK n a = n
theorem tree_one {x : Nd} (h : partsK x.kind = 0) (h2 : x.parts = 0) : Tree [x] := fun n hn => by
  rw [runK_one (by omega) (by omega) (by omega), h]; omega
theorem tree_up {a : List Nd} {x : Nd} (h : Tree a) (h1 : partsK x.kind = 1) (h2 : x.parts = 1) : Tree (a ++ [x]) := fun n hn => by
  rw [runK_app a _ n hn (by rw [h n hn]; omega), h n hn, runK_one (by omega) (by omega) (by omega), h1]; omega
theorem tree_row {a b : List Nd} (h : Tree a) (h2 : Tail b) : Tree (a ++ b) := fun n hn => by
  rw [runK_app a _ n hn (by rw [h n hn]; omega), h n hn, h2 _ (by omega)]
theorem tail_nil : Tail [] := fun n hn => rfl
theorem tail_row {a b : List Nd} {x : Nd} (h : Tree a) (h1 : partsK x.kind = 2) (h2 : x.parts = 2) (hb : Tail b) : Tail (a ++ [x] ++ b) := fun n hn => by
  have e1 : runK n (a ++ [x]) = n := by
    rw [runK_app a _ n (by omega) (by rw [h n (by omega)]; omega), h n (by omega), runK_one (by omega) (by omega) (by omega), h1]; omega
  rw [runK_app (a ++ [x]) b n (by omega) (by rw [e1]; omega), e1, hb n hn]
/-- What is ahead: tokens within the text, then the end. -/
def Good (N : Int) (ts : List Tok) : Prop := ∃ us z, ts = us ++ [z] ∧ z.1 = 0 ∧ z.2.1 = N ∧ ∀ q ∈ us, TokIn 0 N q
/-- Where a fault is told. -/
def BadAt (N p c : Int) : Prop := (c = 180 ∧ p = N) ∨ (c ≠ 180 ∧ c ≠ 0 ∧ 0 ≤ p ∧ p < N)
def Rs.keep {α : Type} (N : Int) (V : α → Prop) (x : Rs α) : Prop :=
  match x with
  | .ok a r => V a ∧ Good N r
  | .bad p c => BadAt N p c
  | .out => True
abbrev Any {α : Type} : α → Prop := fun _ => True
theorem keep_bind {α β : Type} {N : Int} {V : α → Prop} {W : β → Prop} {x : Rs α} {f : α → List Tok → Rs β} (h : x.keep N V) (hf : ∀ a r, V a → Good N r → (f a r).keep N W) : (x.bind f).keep N W := by
  cases x with
  | ok a r => exact hf a r h.1 h.2
  | bad p c => exact h
  | out => trivial
theorem good_tail {N : Int} {ts : List Tok} (h : Good N ts) (h0 : (hd ts).1 ≠ 0) : Good N ts.tail := by
  obtain ⟨us, z, rfl, hz, hn, hu⟩ := h
  cases us with
  | nil => exact absurd hz h0
  | cons u us => exact ⟨us, z, rfl, hz, hn, fun q hq => hu q (List.mem_cons_of_mem _ hq)⟩
theorem good_hd {N : Int} {ts : List Tok} (h : Good N ts) : ((hd ts).1 = 0 ∧ (hd ts).2.1 = N) ∨ TokIn 0 N (hd ts) := by
  obtain ⟨us, z, rfl, hz, hn, hu⟩ := h
  cases us with
  | nil => exact .inl ⟨hz, hn⟩
  | cons u us => exact .inr (hu u List.mem_cons_self)
theorem keep_fail {α : Type} {N : Int} {V : α → Prop} {ts : List Tok} (h : Good N ts) : (fail ts : Rs α).keep N V := by
  show BadAt N (hd ts).2.1 (failC ts)
  unfold failC BadAt
  rcases good_hd h with ⟨h0, hn⟩ | ⟨h0, h1, h2⟩
  · rw [if_pos h0]; exact .inl ⟨rfl, hn⟩
  · rw [if_neg h0]; exact .inr ⟨by decide, by decide, h1, h2⟩
theorem keep_bad {α : Type} {N c : Int} {V : α → Prop} {ts : List Tok} (h : Good N ts) (h0 : (hd ts).1 ≠ 0) (hc : c ≠ 180 ∧ c ≠ 0) : (Rs.bad (hd ts).2.1 c : Rs α).keep N V := by
  rcases good_hd h with ⟨h1, hn⟩ | ⟨h1, h2, h3⟩
  · exact absurd h1 h0
  · exact .inr ⟨hc.1, hc.2, h2, h3⟩
theorem isB_kind {s : ByteArray} {ts : List Tok} (h : isB s ts = true) : (hd ts).1 ≠ 0 := by
  unfold isB meanB at h
  simp only [Bool.and_eq_true, Bool.or_eq_true, decide_eq_true_eq] at h
  omega
theorem num_kind {row : List ByteArray} {ts : List Tok} (h : numIn row (hd ts) ≠ 0) : (hd ts).1 ≠ 0 := fun e => h (by
  unfold numIn meanB
  rw [e]
  rfl)
theorem keep_must {N : Int} {b : Bool} {ts : List Tok} (h : Good N ts) : (must b ts).keep N Any := by
  unfold must
  split
  · exact ⟨trivial, h⟩
  · exact keep_fail h
theorem keep_need {N : Int} {s : ByteArray} {ts : List Tok} (h : Good N ts) : (need s ts).keep N Any := by
  unfold need
  split
  · rename_i hb; exact ⟨trivial, good_tail h (isB_kind hb)⟩
  · exact keep_fail h
theorem keep_lname {N : Int} {ts : List Tok} (h : Good N ts) : (lname ts).keep N Any := by
  unfold lname
  split
  · rename_i hb
    simp only [Bool.and_eq_true, decide_eq_true_eq] at hb
    exact ⟨trivial, good_tail h (by rw [hb.1]; decide)⟩
  · exact keep_fail h
theorem keep_nstep {N : Int} {ns : List ByteArray} {ts : List Tok} (h : Good N ts) : (nstep ns ts).keep N Any := keep_bind (keep_lname h) fun a r _ hr => ⟨trivial, hr⟩
theorem keep_more {α : Type} {N : Int} {step : α → List Tok → Rs α} {closes : ByteArray} (hs : ∀ a ts, Good N ts → (step a ts).keep N Any) : ∀ (f : Nat) (a : α) (ts : List Tok), Good N ts → (moreR step closes f a ts).keep N Any := by
  intro f
  induction f with
  | zero => intro a ts h; trivial
  | succ f ih =>
    intro a ts h
    unfold moreR
    split
    · rename_i hb
      exact keep_bind (hs a ts.tail (good_tail h (isB_kind hb))) fun a2 r _ hr => ih a2 r hr
    · exact keep_bind (keep_need h) fun _ r _ hr => ⟨trivial, hr⟩
theorem keep_list {α : Type} {N : Int} {step : α → List Tok → Rs α} {opens closes : ByteArray} (hs : ∀ a ts, Good N ts → (step a ts).keep N Any) (f : Nat) (a : α) (ts : List Tok) (h : Good N ts) : (listR step opens closes f a ts).keep N Any := by
  unfold listR
  refine keep_bind (keep_need h) fun _ r _ hr => ?_
  split
  · rename_i hb; exact ⟨trivial, good_tail hr (isB_kind hb)⟩
  · exact keep_bind (hs a r hr) fun a2 r2 _ h2 => keep_more hs f a2 r2 h2
theorem good_take {N : Int} {row : List ByteArray} {may : List Int} {ts : List Tok} (h : Good N ts) (hm : may.contains 0 = false) : Good N (takeR row may ts) := by
  unfold takeR
  split
  · rename_i hb
    refine good_tail h (num_kind (row := row) fun e => ?_)
    rw [e, hm] at hb
    cases hb
  · exact h
theorem keep_group {N : Int} {f : Nat} {may : List Int} {ts : List Tok} (h : Good N ts) (hm : may.contains 0 = false) : (groupR f may ts).keep N Any := by
  unfold groupR
  split
  · exact ⟨trivial, good_take h hm⟩
  · exact keep_bind (keep_list (fun _ _ h => keep_nstep h) f [] _ (good_take h hm)) fun a r _ hr => ⟨trivial, hr⟩
theorem keep_with {N : Int} {ms : List Mt} {k : Int} {n : ByteArray} {ts : List Tok} (h : Good N ts) (h0 : (hd ts).1 ≠ 0) : (withR ms k n ts).keep N Any := by
  unfold withR
  split
  · exact ⟨trivial, good_tail h h0⟩
  · exact keep_bad h h0 (by decide)
theorem keep_mstep {N : Int} {ms : List Mt} {ts : List Tok} (h : Good N ts) : (mstep ms ts).keep N Any := by
  unfold mstep
  cases hq : questR ts with
  | out => trivial
  | bad p c =>
    have hk : (questR ts).keep N Any := by
      unfold questR
      refine keep_bind (keep_lname h) fun s r _ hr => ?_
      unfold must
      split
      · rename_i hb
        rw [bind_ok]
        have hn : numIn kindsR (hd r) ≠ 0 := by simpa using hb
        split
        · exact ⟨trivial, good_tail hr (num_kind hn)⟩
        · exact keep_fail (good_tail hr (num_kind hn))
      · exact keep_fail hr
    rw [hq] at hk
    exact hk
  | ok q r =>
    rw [bind_ok]
    have hk : (questR ts).keep N (fun _ => True) := by
      unfold questR
      refine keep_bind (keep_lname h) fun s r _ hr => ?_
      unfold must
      split
      · rename_i hb
        rw [bind_ok]
        have hn : numIn kindsR (hd r) ≠ 0 := by simpa using hb
        split
        · exact ⟨trivial, good_tail hr (num_kind hn)⟩
        · exact keep_fail (good_tail hr (num_kind hn))
      · exact keep_fail hr
    rw [hq] at hk
    have h4 : (hd r).1 = 4 := by
      unfold questR at hq
      cases hl : lname ts with
      | out => rw [hl] at hq; cases hq
      | bad p c => rw [hl, bind_bad] at hq; cases hq
      | ok s r1 =>
        rw [hl, bind_ok] at hq
        unfold must at hq
        split at hq
        · rw [bind_ok] at hq
          split at hq
          · rename_i h4
            rw [bind_ok] at hq
            cases hq
            simpa using h4
          · cases hq
        · cases hq
    exact keep_with hk.2 (by rw [h4]; decide)
theorem keep_match {N : Int} {f : Nat} {ts : List Tok} (h : Good N ts) : (matchR f ts).keep N Any := by
  unfold matchR
  split
  · rename_i hb
    simp only [Bool.and_eq_true, decide_eq_true_eq] at hb
    refine keep_bind (keep_with h (by rw [hb.1]; decide)) fun ms r _ hr => ?_
    split
    · exact keep_list (fun _ _ h => keep_mstep h) f ms r hr
    · exact ⟨trivial, hr⟩
  · exact keep_list (fun _ _ h => keep_mstep h) f [] ts h
theorem keep_span {N : Int} {ts : List Tok} (h : Good N ts) : (spanT ts).keep N Any := by
  unfold spanT
  split
  · rename_i h2; exact ⟨trivial, good_tail h (by rw [h2]; decide)⟩
  · exact keep_fail h
theorem keep_width {N : Int} {ts : List Tok} (h : Good N ts) : (widthR ts).keep N (fun kw => kw.1 = 2 ∨ kw.1 = 3) := by
  unfold widthR
  split
  · rename_i hb
    exact keep_bind (keep_span (good_tail h (isB_kind hb))) fun w r _ hr => keep_bind (keep_need hr) fun _ r2 _ h2 => ⟨.inr rfl, h2⟩
  · exact ⟨.inl rfl, h⟩
theorem keep_back {N : Int} {ts : List Tok} (h : Good N ts) : (backR ts).keep N Any := by
  unfold backR
  split
  · rename_i hb; exact keep_span (good_tail h (isB_kind hb))
  · exact ⟨trivial, h⟩
theorem keep_sel {N : Int} {f : Nat} {ts : List Tok} (h : Good N ts) : (selR f ts).keep N Tree := by
  unfold selR
  refine keep_bind (keep_match h) fun ms r _ hr => keep_bind (keep_width hr) fun kw r2 hk h2 => keep_bind (keep_back h2) fun b r3 _ h3 => ⟨?_, h3⟩
  refine tree_one ?_ rfl
  show partsK kw.1 = 0
  rcases hk with e | e <;> rw [e] <;> rfl
theorem keep_nest {N : Int} {sign : ByteArray} {nest : Nat} {X : Nat → List Tok → Rs (List Nd)} {ts : List Tok} (h : Good N ts) (hX : ∀ n us, Good N us → (X n us).keep N Tree) : (nestR sign nest X ts).keep N Tree := by
  unfold nestR must
  split
  · rename_i hb
    rw [bind_ok]
    split
    · exact keep_bad h (isB_kind hb) (by decide)
    · exact hX _ _ (good_tail h (isB_kind hb))
  · exact keep_fail h
theorem keep_brack {N : Int} {nest : Nat} {X : Nat → List Tok → Rs (List Nd)} {ts : List Tok} (h : Good N ts) (hX : ∀ n us, Good N us → (X n us).keep N Tree) : (brackR nest X ts).keep N Tree :=
  keep_bind (keep_nest h hX) fun a r ha hr => keep_bind (keep_need hr) fun _ r2 _ h2 => ⟨ha, h2⟩
theorem keep_one {N : Int} {F nest : Nat} {X : Nat → List Tok → Rs (List Nd)} {ts : List Tok} (h : Good N ts) (hX : ∀ n us, Good N us → (X n us).keep N Tree) : (oneR F nest X ts).keep N Tree := by
  unfold oneR
  split
  · rename_i h1; exact ⟨tree_one rfl rfl, good_tail h (by rw [h1]; decide)⟩
  · split
    · exact keep_brack h hX
    · split
      · rename_i hf; exact keep_bind (keep_brack (good_tail h (num_kind hf)) hX) fun a r ha hr => ⟨tree_up ha rfl rfl, hr⟩
      · split
        · rename_i hf
          exact keep_bind (keep_group (good_tail h (num_kind hf)) rfl) fun g r _ hr => keep_bind (keep_brack hr hX) fun a r2 ha h2 => ⟨tree_up ha rfl rfl, h2⟩
        · exact keep_sel h
theorem rowOps_zero (i : Nat) : (rowOps i).contains 0 = false := by
  match i with
  | 0 => rfl
  | 1 => rfl
  | 2 => rfl
  | 3 => rfl
  | n + 4 => rfl
theorem good_bool {N op : Int} {ts : List Tok} (h : Good N ts) : Good N (boolR op ts) := by
  unfold boolR
  split
  · rename_i hb
    unfold boolN at hb
    simp only [Bool.and_eq_true] at hb
    exact good_tail h (isB_kind hb.2)
  · exact h
/-- What a level reads. -/
def Lv (lv : Nat) (a : List Nd) : Prop := if lv ≤ 6 then Tree a else Tail a
theorem lv_tree {lv : Nat} {a : List Nd} (h : lv ≤ 6) : Lv lv a = Tree a := if_pos h
theorem lv_tail {lv : Nat} {a : List Nd} (h : ¬ lv ≤ 6) : Lv lv a = Tail a := if_neg h
theorem keep_P {N : Int} : ∀ (f lv nest : Nat) (ts : List Tok), lv ≤ 11 → Good N ts → (P f lv nest ts).keep N (Lv lv) := by
  intro f
  induction f with
  | zero => intro lv nest ts _ _; trivial
  | succ f ih =>
    intro lv nest ts hl h
    rw [P_succ]
    split
    · rename_i hlv
      refine keep_bind (W := Lv lv) (ih (lv + 1) nest ts (by omega) h) fun a r ha hr => keep_bind (W := Lv lv) (ih (lv + 7) nest r (by omega) hr) fun b r2 hb h2 => ?_
      rw [lv_tree (by omega)] at ha
      rw [lv_tail (by omega)] at hb
      refine ⟨?_, h2⟩
      rw [lv_tree (by omega)]
      exact tree_row ha hb
    · split
      · rename_i h5
        subst h5
        split
        · refine keep_bind (keep_nest (N := N) h fun n us hu => ?_) fun a r ha hr => ⟨?_, hr⟩
          · exact ih 5 n us (by omega) hu
          · exact tree_up ha rfl rfl
        · exact ih 6 nest ts (by omega) h
      · split
        · rename_i h6
          subst h6
          exact keep_one h fun n us hu => ih 0 n us (by omega) hu
        · rename_i h4 h5 h6
          have h7 : ¬ lv ≤ 6 := by omega
          split
          · refine ⟨?_, h⟩
            rw [lv_tail h7]
            exact tail_nil
          · refine keep_bind (W := Lv lv) (keep_group (may := [3, 4]) (good_bool (good_take h (rowOps_zero _))) rfl) fun g r _ hr => keep_bind (W := Lv lv) (ih (lv - 6) nest r (by omega) hr) fun a r2 ha h2 => keep_bind (W := Lv lv) (ih lv nest r2 hl h2) fun b r3 hb h3 => ?_
            rw [lv_tree (by omega)] at ha
            rw [lv_tail h7] at hb
            refine ⟨?_, h3⟩
            rw [lv_tail h7]
            exact tail_row ha rfl rfl hb
theorem good_lex {s : ByteArray} {ts : List Tok} (h : lexR s = .ok ts) : Good (s.size : Int) ts := by
  obtain ⟨us, e, hu, -, -⟩ := (lexR_toks h).ex
  exact ⟨us, _, e, rfl, rfl, hu⟩
/-- What Parse tells of a text that is cut into tokens. -/
theorem parse_total {s : ByteArray} {ts : List Tok} (h : lexR s = .ok ts) : match parseR s with
    | .ok ns => runK 0 ns = 1 ∧ ns.length ≤ 4097
    | .bad p c => BadAt (s.size : Int) p c := by
  have hfew := P_few (8 * ts.length + 8) 0 0 ts (by have := (lexR_end h).2; omega)
  have hl := (lexR_end h).2
  have hk := keep_P (N := (s.size : Int)) (8 * ts.length + 8) 0 0 ts (by omega) (good_lex h)
  have hf := P_fine (8 * ts.length + 8) 0 0 ts (by omega) (by omega) (by unfold fuelN; rw [if_pos (by omega)]; omega)
  unfold parseR
  rw [h]
  show match parseT ts with
    | .ok ns => runK 0 ns = 1 ∧ ns.length ≤ 4097
    | .bad p c => BadAt (s.size : Int) p c
  unfold parseT
  cases hp : P (8 * ts.length + 8) 0 0 ts with
  | out => rw [hp] at hf; exact hf.elim
  | bad p c => rw [hp] at hk; exact hk
  | ok a r =>
    rw [hp] at hk hfew
    have hfew2 : a.length + r.length ≤ ts.length := hfew
    obtain ⟨ha, hr⟩ := hk
    rw [lv_tree (by omega)] at ha
    by_cases h0 : (hd r).1 = 0
    · have h1 : endR (.ok a r) = .ok a := if_pos h0
      rw [h1]
      exact ⟨ha 0 (by omega), by omega⟩
    · have h1 : endR (.ok a r) = .bad (hd r).2.1 181 := if_neg h0
      rw [h1]
      exact keep_bad (α := Unit) (V := Any) hr h0 (by decide)
end Go.Proofs.YthbodkgcbfplgaaGreat

/- What is read has a form: of each token, of each part, of the nodes. -/
namespace Go.Proofs.YthbodkgcbfplgaaGreat
open Go.RowKit
set_option linter.unusedVariables false
set_option linter.unusedSimpArgs false
set_option maxRecDepth 20000

/-- What a token of a number or a span is like. -/
def TokF (q : Tok) : Prop := (q.1 = 1 → numB (sInts q.2.2.1) = true) ∧ (q.1 = 2 → 1 ≤ q.2.2.2 ∧ q.2.2.2 ≤ 2147483647)
abbrev Toksf (ts : List Tok) : Prop := ∀ q ∈ ts, TokF q
theorem span_range (r : List Int) (h : 1 ≤ spanR r) : spanR r ≤ 2147483647 := by
  unfold spanR at h ⊢
  split
  · rename_i h1
    rw [if_pos h1] at h
    split
    · rename_i h2; exact h2.2
    · omega
  · omega
theorem tokR_form (l : List Int) (hb : ∀ z ∈ l, 0 ≤ z ∧ z ≤ 255) (p : Int) : TokF ((tokR l).1.1, p, (tokR l).1.2.1, (tokR l).1.2.2.1) := by
  have hr : ∀ z ∈ runR 46 l, 0 ≤ z ∧ z ≤ 255 := fun z hz => hb z (List.takeWhile_sublist _ |>.subset hz)
  unfold tokR
  split
  · unfold numR
    split
    · rename_i h1
      exact ⟨fun e => absurd e (by show ¬ ((2 : Int) = 1); decide), fun _ => ⟨h1, span_range _ h1⟩⟩
    · split
      · rename_i h2
        refine ⟨fun _ => ?_, fun e => absurd e (by show ¬ ((1 : Int) = 2); decide)⟩
        show numB (sInts (strOfNums (runR 46 l))) = true
        rw [sInts_str hr]; exact h2
      · exact ⟨fun e => absurd e (by show ¬ ((0 : Int) = 1); decide), fun e => absurd e (by show ¬ ((0 : Int) = 2); decide)⟩
  · split
    · exact ⟨fun e => absurd e (by show ¬ ((3 : Int) = 1); decide), fun e => absurd e (by show ¬ ((3 : Int) = 2); decide)⟩
    · split
      · unfold txtR
        split
        · exact ⟨fun e => absurd e (by show ¬ ((0 : Int) = 1); decide), fun e => absurd e (by show ¬ ((0 : Int) = 2); decide)⟩
        · exact ⟨fun e => absurd e (by show ¬ ((4 : Int) = 1); decide), fun e => absurd e (by show ¬ ((4 : Int) = 2); decide)⟩
      · unfold sgnR
        split
        · exact ⟨fun e => absurd e (by show ¬ ((0 : Int) = 1); decide), fun e => absurd e (by show ¬ ((0 : Int) = 2); decide)⟩
        · exact ⟨fun e => absurd e (by show ¬ ((5 : Int) = 1); decide), fun e => absurd e (by show ¬ ((5 : Int) = 2); decide)⟩
theorem tokF_end (n : Int) : TokF (0, n, ⟨#[]⟩, 0) := ⟨fun e => absurd e (by show ¬ ((0 : Int) = 1); decide), fun e => absurd e (by show ¬ ((0 : Int) = 2); decide)⟩
theorem lexL_form : ∀ (n at_ : Nat) (l : List Int) (ts : List Tok), l.length ≤ n → (∀ z ∈ l, 0 ≤ z ∧ z ≤ 255) → lexL at_ l = .ok ts → Toksf ts := by
  intro n
  induction n with
  | zero =>
    intro at_ l ts hl hb h
    obtain rfl : l = [] := List.eq_nil_of_length_eq_zero (by omega)
    rw [lexL] at h
    cases h
    intro q hq
    rw [List.mem_singleton.1 hq]
    exact tokF_end _
  | succ n ih =>
    intro at_ l ts hl hb h
    cases l with
    | nil =>
      rw [lexL] at h
      cases h
      intro q hq
      rw [List.mem_singleton.1 hq]
      exact tokF_end _
    | cons c r =>
      simp only [List.length_cons] at hl
      rw [lexL] at h
      split at h
      · exact ih _ r ts (by omega) (fun z hz => hb z (List.mem_cons_of_mem _ hz)) h
      · split at h
        · cases h
        · cases hx : lexL (at_ + (tokR (c :: r)).1.2.2.2) (r.drop ((tokR (c :: r)).1.2.2.2 - 1)) with
          | bad p q => rw [hx] at h; cases h
          | ok us =>
            rw [hx] at h
            cases h
            intro q hq
            rcases List.mem_cons.1 hq with rfl | hq
            · exact tokR_form _ hb _
            · exact ih _ _ us (by rw [List.length_drop]; omega) (fun z hz => hb z (List.mem_cons_of_mem _ (List.mem_of_mem_drop hz))) hx q hq
theorem lexR_form {s : ByteArray} {ts : List Tok} (h : lexR s = .ok ts) : Toksf ts := by
  unfold lexR at h
  split at h
  · cases h
  · exact lexL_form _ 0 (sInts s) ts (Nat.le_refl _) (sInts_byte s) h
theorem tokF_hd {ts : List Tok} (h : Toksf ts) : TokF (hd ts) := by
  cases ts with
  | nil => exact tokF_end 0
  | cons t r => exact h t List.mem_cons_self
theorem tail_f {ts : List Tok} (h : Toksf ts) : Toksf ts.tail := fun q hq => h q (List.mem_of_mem_tail hq)
/-- What a node is that is read. -/
inductive NdF : Nd → Prop
  | num (t : ByteArray) : numB (sInts t) = true → NdF (numN t)
  | vec (ms : List Mt) (b : Int) : matsB ms = true → 0 ≤ b → b ≤ 2147483647 → NdF ⟨2, 0, ⟨#[]⟩, ms, 0, b, 0, [], false, 0⟩
  | rng (ms : List Mt) (w b : Int) : matsB ms = true → 1 ≤ w → w ≤ 2147483647 → 0 ≤ b → b ≤ 2147483647 → NdF ⟨3, 0, ⟨#[]⟩, ms, w, b, 0, [], false, 0⟩
  | call (k : Int) : 1 ≤ k → k ≤ 12 → NdF (callN k)
  | agg (k g : Int) (ns : List ByteArray) : 1 ≤ k → k ≤ 5 → (g = 0 ∧ ns = [] ∨ g ∈ [(1 : Int), 2] ∧ ns.all nameB = true) → NdF (aggN k g ns)
  | bin (k : Int) (b : Bool) (g : Int) (ns : List ByteArray) : 1 ≤ k → k ≤ 13 → (b = true → cmpT k = true) → (g = 0 ∧ ns = [] ∨ g ∈ [(3 : Int), 4] ∧ ns.all nameB = true) → NdF (binN k b g ns)
  | neg : NdF negN
def AllF (a : List Nd) : Prop := ∀ x ∈ a, NdF x
theorem allF_app {a b : List Nd} (ha : AllF a) (hb : AllF b) : AllF (a ++ b) := fun x hx => (List.mem_append.1 hx).elim (ha x) (hb x)
theorem allF_one {x : Nd} (h : NdF x) : AllF [x] := fun y hy => by rw [List.mem_singleton.1 hy]; exact h
/-- What is read, and what is ahead then. -/
def Rs.hold {α : Type} (V : α → Prop) (x : Rs α) : Prop :=
  match x with
  | .ok a r => V a ∧ Toksf r
  | _ => True
theorem hold_bind {α β : Type} {V : α → Prop} {W : β → Prop} {x : Rs α} {f : α → List Tok → Rs β} (h : x.hold V) (hf : ∀ a r, V a → Toksf r → (f a r).hold W) : (x.bind f).hold W := by
  cases x with
  | ok a r => exact hf a r h.1 h.2
  | bad p c => trivial
  | out => trivial
theorem hold_must {b : Bool} {ts : List Tok} (h : Toksf ts) : (must b ts).hold Any := by
  unfold must
  split
  · exact ⟨trivial, h⟩
  · trivial
theorem hold_need {s : ByteArray} {ts : List Tok} (h : Toksf ts) : (need s ts).hold Any := by
  unfold need
  split
  · exact ⟨trivial, tail_f h⟩
  · trivial
theorem hold_lname {ts : List Tok} (h : Toksf ts) : (lname ts).hold (fun s => nameB s = true) := by
  unfold lname
  split
  · rename_i hb
    simp only [Bool.and_eq_true, decide_eq_true_eq] at hb
    exact ⟨hb.2, tail_f h⟩
  · trivial
abbrev NsF (ns : List ByteArray) : Prop := ns.all nameB = true
theorem hold_nstep {ns : List ByteArray} {ts : List Tok} (hn : NsF ns) (h : Toksf ts) : (nstep ns ts).hold NsF := hold_bind (hold_lname h) fun a r ha hr => ⟨by show (ns ++ [a]).all nameB = true; rw [List.all_append, hn]; simpa using ha, hr⟩
theorem hold_more {α : Type} {V : α → Prop} {step : α → List Tok → Rs α} {closes : ByteArray} (hs : ∀ a ts, V a → Toksf ts → (step a ts).hold V) : ∀ (f : Nat) (a : α) (ts : List Tok), V a → Toksf ts → (moreR step closes f a ts).hold V := by
  intro f
  induction f with
  | zero => intro a ts _ h; trivial
  | succ f ih =>
    intro a ts ha h
    unfold moreR
    split
    · exact hold_bind (hs a ts.tail ha (tail_f h)) fun a2 r h2 hr => ih a2 r h2 hr
    · exact hold_bind (hold_need h) fun _ r _ hr => ⟨ha, hr⟩
theorem hold_list {α : Type} {V : α → Prop} {step : α → List Tok → Rs α} {opens closes : ByteArray} (hs : ∀ a ts, V a → Toksf ts → (step a ts).hold V) (f : Nat) (a : α) (ts : List Tok) (ha : V a) (h : Toksf ts) : (listR step opens closes f a ts).hold V := by
  unfold listR
  refine hold_bind (hold_need h) fun _ r _ hr => ?_
  split
  · exact ⟨ha, tail_f hr⟩
  · exact hold_bind (hs a r ha hr) fun a2 r2 h2 hr2 => hold_more hs f a2 r2 h2 hr2
theorem take_f {row : List ByteArray} {may : List Int} {ts : List Tok} (h : Toksf ts) : Toksf (takeR row may ts) := by
  unfold takeR
  split
  · exact tail_f h
  · exact h
theorem takeN_may {row : List ByteArray} {may : List Int} {ts : List Tok} (h : takeN row may ts ≠ 0) : takeN row may ts ∈ may := by
  unfold takeN at h ⊢
  split
  · rename_i hc; exact List.contains_iff_mem.1 hc
  · rename_i hc; rw [if_neg hc] at h; exact absurd rfl h
def GrF (may : List Int) (g : Int × List ByteArray) : Prop := g.1 = 0 ∧ g.2 = [] ∨ g.1 ∈ may ∧ g.2.all nameB = true
theorem hold_group {f : Nat} {may : List Int} {ts : List Tok} (h : Toksf ts) : (groupR f may ts).hold (GrF may) := by
  unfold groupR
  split
  · exact ⟨.inl ⟨rfl, rfl⟩, take_f h⟩
  · rename_i h0
    exact hold_bind (hold_list (V := NsF) (fun _ _ ha h => hold_nstep ha h) f [] _ rfl (take_f h)) fun a r ha hr => ⟨.inr ⟨takeN_may h0, ha⟩, hr⟩
abbrev MsF (ms : List Mt) : Prop := matsB ms = true
theorem hold_with {ms : List Mt} {k : Int} {n : ByteArray} {ts : List Tok} (h : Toksf ts) : (withR ms k n ts).hold MsF := by
  unfold withR
  split
  · rename_i hm; exact ⟨hm, tail_f h⟩
  · trivial
theorem hold_quest {ts : List Tok} (h : Toksf ts) : (questR ts).hold Any := by
  unfold questR
  exact hold_bind (hold_lname h) fun s r _ hr => hold_bind (hold_must hr) fun _ _ _ _ => hold_bind (hold_must (tail_f hr)) fun _ _ _ h3 => ⟨trivial, h3⟩
theorem hold_mstep {ms : List Mt} {ts : List Tok} (h : Toksf ts) : (mstep ms ts).hold MsF := hold_bind (hold_quest h) fun _ _ _ hr => hold_with hr
theorem hold_match {f : Nat} {ts : List Tok} (h : Toksf ts) : (matchR f ts).hold MsF := by
  unfold matchR
  split
  · refine hold_bind (hold_with h) fun ms r hm hr => ?_
    split
    · exact hold_list (V := MsF) (fun _ _ _ h => hold_mstep h) f ms r hm hr
    · exact ⟨hm, hr⟩
  · exact hold_list (V := MsF) (fun _ _ _ h => hold_mstep h) f [] ts rfl h
abbrev SpF (n : Int) : Prop := 1 ≤ n ∧ n ≤ 2147483647
theorem hold_span {ts : List Tok} (h : Toksf ts) : (spanT ts).hold SpF := by
  unfold spanT
  split
  · rename_i h2; exact ⟨(tokF_hd h).2 h2, tail_f h⟩
  · trivial
theorem hold_width {ts : List Tok} (h : Toksf ts) : (widthR ts).hold (fun kw => kw = (2, 0) ∨ kw.1 = 3 ∧ SpF kw.2) := by
  unfold widthR
  split
  · exact hold_bind (hold_span (tail_f h)) fun w r hw hr => hold_bind (hold_need hr) fun _ r2 _ h2 => ⟨.inr ⟨rfl, hw⟩, h2⟩
  · exact ⟨.inl rfl, h⟩
theorem hold_back {ts : List Tok} (h : Toksf ts) : (backR ts).hold (fun b => 0 ≤ b ∧ b ≤ 2147483647) := by
  unfold backR
  split
  · have := hold_span (tail_f h)
    cases hx : spanT ts.tail with
    | ok a r => rw [hx] at this; exact ⟨⟨by have := this.1.1; omega, this.1.2⟩, this.2⟩
    | bad p c => trivial
    | out => trivial
  · exact ⟨⟨by decide, by decide⟩, h⟩
theorem hold_sel {f : Nat} {ts : List Tok} (h : Toksf ts) : (selR f ts).hold AllF := by
  unfold selR
  refine hold_bind (hold_match h) fun ms r hm hr => hold_bind (hold_width hr) fun kw r2 hk h2 => hold_bind (hold_back h2) fun b r3 hb h3 => ⟨allF_one ?_, h3⟩
  obtain ⟨k, w⟩ := kw
  rcases hk with e | ⟨e, hw⟩
  · cases e; exact .vec ms b hm hb.1 hb.2
  · cases e; exact .rng ms w b hm hw.1 hw.2 hb.1 hb.2
theorem hold_nest {sign : ByteArray} {nest : Nat} {X : Nat → List Tok → Rs (List Nd)} {ts : List Tok} (h : Toksf ts) (hX : ∀ n us, Toksf us → (X n us).hold AllF) : (nestR sign nest X ts).hold AllF := by
  unfold nestR must
  split
  · rw [bind_ok]
    split
    · trivial
    · exact hX _ _ (tail_f h)
  · trivial
theorem hold_brack {nest : Nat} {X : Nat → List Tok → Rs (List Nd)} {ts : List Tok} (h : Toksf ts) (hX : ∀ n us, Toksf us → (X n us).hold AllF) : (brackR nest X ts).hold AllF :=
  hold_bind (hold_nest h hX) fun a r ha hr => hold_bind (hold_need hr) fun _ r2 _ h2 => ⟨ha, h2⟩
theorem find_len (s : ByteArray) : ∀ row : List ByteArray, findB s row < row.length := by
  intro row
  induction row with
  | nil => show (-1 : Int) < 0; decide
  | cons x r ih =>
    unfold findB
    simp only [List.length_cons]
    split
    · omega
    · split
      · omega
      · omega
theorem numIn_len {row : List ByteArray} {t : Tok} (h : numIn row t ≠ 0) : 1 ≤ numIn row t ∧ numIn row t < row.length := by
  unfold numIn at h ⊢
  split
  · rename_i hm
    rw [if_pos hm] at h
    have := find_len t.2.2.1 row
    omega
  · rename_i hm; rw [if_neg hm] at h; exact absurd rfl h
theorem hold_one {F nest : Nat} {X : Nat → List Tok → Rs (List Nd)} {ts : List Tok} (h : Toksf ts) (hX : ∀ n us, Toksf us → (X n us).hold AllF) : (oneR F nest X ts).hold AllF := by
  unfold oneR
  split
  · rename_i h1; exact ⟨allF_one (.num _ ((tokF_hd h).1 h1)), tail_f h⟩
  · split
    · exact hold_brack h hX
    · split
      · rename_i hf
        have hn := numIn_len hf
        have hl : ((funcsR.length : Nat) : Int) = 13 := rfl
        exact hold_bind (hold_brack (tail_f h) hX) fun a r ha hr => ⟨allF_app ha (allF_one (.call _ hn.1 (by omega))), hr⟩
      · split
        · rename_i hf
          have hn := numIn_len hf
          have hl : ((aggsR.length : Nat) : Int) = 6 := rfl
          exact hold_bind (hold_group (tail_f h)) fun g r hg hr => hold_bind (hold_brack hr hX) fun a r2 ha h2 => ⟨allF_app ha (allF_one (.agg _ _ _ hn.1 (by omega) hg)), h2⟩
        · exact hold_sel h
theorem bool_f {op : Int} {ts : List Tok} (h : Toksf ts) : Toksf (boolR op ts) := by
  unfold boolR
  split
  · exact tail_f h
  · exact h
theorem rowOps_range (i : Nat) : ∀ k ∈ rowOps i, 1 ≤ k ∧ k ≤ 13 := by
  match i with
  | 0 => decide
  | 1 => decide
  | 2 => decide
  | 3 => decide
  | n + 4 => show ∀ k ∈ [(3 : Int), 4], 1 ≤ k ∧ k ≤ 13; decide
theorem boolN_cmp {op : Int} {ts : List Tok} (h : boolN op ts = true) : cmpT op = true := by
  unfold boolN at h
  rw [Bool.and_eq_true] at h
  exact h.1
theorem hold_P : ∀ (f lv nest : Nat) (ts : List Tok), Toksf ts → (P f lv nest ts).hold AllF := by
  intro f
  induction f with
  | zero => intro lv nest ts _; trivial
  | succ f ih =>
    intro lv nest ts h
    rw [P_succ]
    split
    · exact hold_bind (ih (lv + 1) nest ts h) fun a r ha hr => hold_bind (ih (lv + 7) nest r hr) fun b r2 hb h2 => ⟨allF_app ha hb, h2⟩
    · split
      · split
        · exact hold_bind (hold_nest h fun n us hu => ih 5 n us hu) fun a r ha hr => ⟨allF_app ha (allF_one .neg), hr⟩
        · exact ih 6 nest ts h
      · split
        · exact hold_one h fun n us hu => ih 0 n us hu
        · split
          · exact ⟨fun x hx => (List.not_mem_nil hx).elim, h⟩
          · rename_i hop
            have hk := rowOps_range _ _ (takeN_may hop)
            exact hold_bind (hold_group (bool_f (take_f h))) fun g r hg hr => hold_bind (ih (lv - 6) nest r hr) fun a r2 ha h2 => hold_bind (ih lv nest r2 h2) fun b r3 hb h3 =>
              ⟨allF_app (allF_app ha (allF_one (.bin _ _ _ _ hk.1 hk.2 boolN_cmp hg))) hb, h3⟩
/-- What is read: a tree of nodes that have forms. -/
theorem parse_nodes {s : ByteArray} {ns : List Nd} (h : parseR s = .ok ns) : AllF ns ∧ runK 0 ns = 1 ∧ ns.length ≤ 4096 := by
  unfold parseR at h
  cases hl : lexR s with
  | bad p c => rw [hl] at h; cases h
  | ok ts =>
    rw [hl] at h
    change parseT ts = .ok ns at h
    have hfew := P_few (8 * ts.length + 8) 0 0 ts (by have := (lexR_end hl).2; omega)
    have hle := (lexR_end hl).2
    have hk := keep_P (N := (s.size : Int)) (8 * ts.length + 8) 0 0 ts (by omega) (good_lex hl)
    have hh := hold_P (8 * ts.length + 8) 0 0 ts (lexR_form hl)
    unfold parseT at h
    cases hp : P (8 * ts.length + 8) 0 0 ts with
    | out => rw [hp] at h; cases h
    | bad p c => rw [hp] at h; cases h
    | ok a r =>
      rw [hp] at hk hfew hh h
      have hfew2 : a.length + r.length ≤ ts.length := hfew
      unfold endR at h
      simp only at h
      split at h
      · cases h
        have h1 : Lv 0 ns ∧ Good (s.size : Int) r := hk
        obtain ⟨ha, us, z, hr, -⟩ := h1
        have h2 : AllF ns ∧ Toksf r := hh
        rw [lv_tree (by omega)] at ha
        have : 1 ≤ r.length := by rw [hr, List.length_append, List.length_singleton]; omega
        exact ⟨h2.1, ha 0 (by omega), by omega⟩
      · cases h
/-- A number alone is read as a node of it. -/
theorem one_tree (t : ByteArray) (n : Int) : parseT [(1, 0, t, 0), (0, n, ⟨#[]⟩, 0)] = .ok [numN t] := by kernel_rfl
theorem no_tree0 : parseT [(0, 0, ⟨#[]⟩, 0)] = .bad 0 180 := by kernel_rfl
theorem no_tree : parseR ⟨#[]⟩ = .bad 0 180 := by
  have h : lexR ⟨#[]⟩ = .ok [(0, 0, ⟨#[]⟩, 0)] := by
    unfold lexR
    rw [if_neg (by decide)]
    show lexL 0 [] = _
    rw [lexL]; rfl
  unfold parseR
  rw [h]
  exact no_tree0
theorem drop_tw (p : Int → Bool) : ∀ l : List Int, l.drop (l.takeWhile p).length = l.dropWhile p := by
  intro l
  induction l with
  | nil => rfl
  | cons c r ih =>
    rw [List.takeWhile_cons, List.dropWhile_cons]
    split
    · rw [List.length_cons, List.drop_succ_cons]; exact ih
    · rfl
theorem tw_all (p : Int → Bool) : ∀ l : List Int, (∀ z ∈ l, p z = true) → l.takeWhile p = l := by
  intro l
  induction l with
  | nil => intro _; rfl
  | cons c r ih => intro h; rw [List.takeWhile_cons, if_pos (h c List.mem_cons_self), ih (fun z hz => h z (List.mem_cons_of_mem _ hz))]
theorem num_run {l : List Int} (h : numB l = true) : runR 46 l = l ∧ digB (l.getD 0 0) = true ∧ spanR l = 0 ∧ l ≠ [] ∧ l.length ≤ 16 := by
  unfold numB at h
  rw [Bool.and_eq_true] at h
  obtain ⟨h1, h2⟩ := h
  have e : l = headR l ++ l.drop (headR l).length := by
    unfold headR
    rw [drop_tw, List.takeWhile_append_dropWhile]
  unfold wholeB at h1
  simp only [Bool.and_eq_true, decide_eq_true_eq] at h1
  obtain ⟨⟨hd1, hd2⟩, -⟩ := h1
  have hdig : ∀ z ∈ headR l, digB z = true := List.all_eq_true.1 hd1
  have hne : l ≠ [] := fun e2 => hd2 (by rw [e2]; rfl)
  have h0 : digB (l.getD 0 0) = true := by
    rw [e]
    cases hh : headR l with
    | nil => exact absurd hh hd2
    | cons c r => rw [List.cons_append, List.getD_cons_zero]; exact hdig c (by rw [hh]; exact List.mem_cons_self)
  have hrest : ∀ z ∈ l.drop ((headR l).length + 1), digB z = true := by
    split at h2
    · rename_i hl; intro z hz; rw [List.drop_of_length_le (by omega)] at hz; exact (List.not_mem_nil hz).elim
    · simp only [Bool.and_eq_true] at h2
      exact List.all_eq_true.1 h2.1.1
  have hmid : l.drop (headR l).length = [] ∨ l.drop (headR l).length = 46 :: l.drop ((headR l).length + 1) := by
    have hdw : l.drop (headR l).length = l.dropWhile (fun c => decide (c ≠ 46)) := drop_tw _ l
    cases hx : l.dropWhile (fun c => decide (c ≠ 46)) with
    | nil => exact .inl (hdw.trans hx)
    | cons c r =>
      right
      have hc : c = 46 := by
        have h9 : ∀ k : List Int, ∀ c r, k.dropWhile (fun c => decide (c ≠ 46)) = c :: r → c = 46 := by
          intro k
          induction k with
          | nil => intro c r h; cases h
          | cons d k ih =>
            intro c r h
            rw [List.dropWhile_cons] at h
            split at h
            · exact ih c r h
            · rename_i hd; cases h; simpa using hd
        exact h9 l c r hx
      rw [hdw, hx, hc]
      congr 1
      rw [← List.drop_drop, hdw, hx]; rfl
  have hrun : ∀ z ∈ l, runB 46 z = true := by
    intro z hz
    rw [e] at hz
    unfold runB
    rcases List.mem_append.1 hz with hz | hz
    · rw [hdig z hz]; rfl
    · rcases hmid with hm | hm
      · rw [hm] at hz; exact (List.not_mem_nil hz).elim
      · rw [hm] at hz
        rcases List.mem_cons.1 hz with rfl | hz
        · decide
        · rw [hrest z hz]; rfl
  have hlast : digB (l.getD (l.length - 1) 0) = true := by
    have hl1 : 0 < l.length := List.length_pos_iff.2 hne
    have hg : l.getD (l.length - 1) 0 = l.getLast hne := by rw [List.getD_eq_getElem?_getD, List.getElem?_eq_getElem (by omega), Option.getD_some, List.getLast_eq_getElem]
    rw [hg]
    rcases hmid with hm | hm
    · have : l = headR l := by conv => lhs; rw [e, hm, List.append_nil]
      exact hdig _ (this ▸ List.getLast_mem hne)
    · have hne2 : l.drop ((headR l).length + 1) ≠ [] := fun e2 => by
        split at h2
        · rename_i hl
          rw [List.drop_of_length_le (by omega)] at hm
          cases hm
        · simp only [Bool.and_eq_true, decide_eq_true_eq] at h2
          have := congrArg List.length e2
          rw [List.length_drop, List.length_nil] at this
          omega
      have : l.getLast hne = (l.drop ((headR l).length + 1)).getLast hne2 := by rw [List.getLast_drop]
      rw [this]
      exact hrest _ (List.getLast_mem hne2)
  refine ⟨tw_all _ _ hrun, h0, ?_, hne, ?_⟩
  · unfold spanR
    split
    · have hu : unitR (l.getD (l.length - 1) 0) = 0 := by
        unfold digB at hlast
        simp only [Bool.and_eq_true, decide_eq_true_eq] at hlast
        unfold unitR
        rw [if_neg (by omega), if_neg (by omega), if_neg (by omega), if_neg (by omega)]
      rw [hu, Int.mul_zero, if_neg (by omega)]
    · rfl
  · split at h2
    · have := of_decide_eq_true h2; omega
    · simp only [Bool.and_eq_true, decide_eq_true_eq] at h2; exact h2.2
theorem num_lex {s : ByteArray} (h : numB (sInts s) = true) : parseR s = .ok [numN s] := by
  obtain ⟨h1, h2, h3, h4, h5⟩ := num_run h
  rw [sInts_len] at h5
  have ht : tokR (sInts s) = ((1, s, 0, s.size), 171 + 1) := by
    unfold tokR
    rw [if_pos h2]
    unfold numR
    rw [h1, if_neg (by omega), if_pos h, str_self, sInts_len]
  have hx : lexR s = .ok [(1, 0, s, 0), (0, (s.size : Int), ⟨#[]⟩, 0)] := by
    unfold lexR
    rw [if_neg (by omega)]
    cases hs : sInts s with
    | nil => exact absurd hs h4
    | cons c r =>
      rw [hs] at ht h2
      have hlen := congrArg List.length hs
      rw [sInts_len, List.length_cons] at hlen
      rw [lexL, if_neg (fun e => by
        rw [List.getD_cons_zero] at h2
        unfold digB at h2
        unfold blankB at e
        simp only [Bool.and_eq_true, Bool.or_eq_true, decide_eq_true_eq] at h2 e
        omega), ht]
      rw [if_neg (by show ¬ s.size = 0; omega)]
      show Lx.cons (1, ((0 : Nat) : Int), s, 0) (lexL (0 + s.size) (r.drop (s.size - 1))) = _
      rw [List.drop_of_length_le (by omega), lexL, Nat.zero_add]
      rfl
  unfold parseR
  rw [hx]
  exact one_tree s _
theorem ndF_text {x : Nd} (h : NdF x) : x.text = ⟨#[]⟩ ∨ numB (sInts x.text) = true := by
  cases h with
  | num t ht => exact .inr ht
  | _ => exact .inl rfl
theorem numT_eq (s : ByteArray) : isNumT s = numB (sInts s) := by
  cases hn : numB (sInts s) with
  | true =>
    unfold isNumT
    rw [num_lex hn]
    show decide (s = s) = true
    exact decide_eq_true rfl
  | false =>
    unfold isNumT
    split
    · rename_i x hx
      refine decide_eq_false fun e => ?_
      obtain ⟨hf, -⟩ := parse_nodes hx
      rcases ndF_text (hf x List.mem_cons_self) with h | h
      · rw [e] at h
        subst h
        rw [no_tree] at hx
        cases hx
      · rw [e, hn] at h; cases h
    · rfl
theorem ndF_form {x : Nd} (h : NdF x) : formB x = true ∧ matsB x.mat = true ∧ x.parts = partsK x.kind ∧ 0 ≤ partsK x.kind := by
  cases h with
  | num t ht =>
    refine ⟨?_, rfl, rfl, by show (0 : Int) ≤ 0; decide⟩
    show (true && (true && (textB { noneF with number := true } t && true))) = true
    unfold textB
    simp [numT_eq, ht]
  | vec ms b hm h0 h1 =>
    refine ⟨?_, hm, rfl, by show (0 : Int) ≤ 0; decide⟩
    simp [formB, kindB, foB, foOf, noneF, inB, textB, grpB, h0, h1]
  | rng ms w b hm h2 h3 h0 h1 =>
    refine ⟨?_, hm, rfl, by show (0 : Int) ≤ 0; decide⟩
    simp [formB, kindB, foB, foOf, noneF, inB, textB, grpB, h0, h1, h2, h3]
  | call k h0 h1 =>
    refine ⟨?_, rfl, rfl, by show (0 : Int) ≤ 1; decide⟩
    simp [callN, formB, kindB, foB, foOf, noneF, inB, textB, grpB, h0, h1]
  | agg k g ns h0 h1 hg =>
    refine ⟨?_, rfl, rfl, by show (0 : Int) ≤ 1; decide⟩
    rcases hg with ⟨rfl, rfl⟩ | ⟨hg, hn⟩
    · simp [aggN, formB, kindB, foB, foOf, noneF, inB, textB, grpB, h0, h1]
    · have hr : g ≠ 0 ∧ 1 ≤ g ∧ g ≤ 2 := by
        simp only [List.mem_cons, List.not_mem_nil, or_false] at hg
        omega
      have hn2 := List.all_eq_true.1 hn
      simp [aggN, formB, kindB, foB, foOf, noneF, inB, textB, grpB, h0, h1, hr.1, hr.2.1, hr.2.2]
      exact hn2
  | bin k b g ns h0 h1 hb hg =>
    refine ⟨?_, rfl, rfl, by show (0 : Int) ≤ 2; decide⟩
    have hbb : (!b || cmpT k) = true := by
      cases b with
      | false => rfl
      | true => rw [hb rfl]; rfl
    rcases hg with ⟨rfl, rfl⟩ | ⟨hg, hn⟩
    · simp [binN, formB, kindB, foB, foOf, noneF, inB, textB, grpB, h0, h1]
      simpa using hbb
    · have hr : g ≠ 0 ∧ 3 ≤ g ∧ g ≤ 4 := by
        simp only [List.mem_cons, List.not_mem_nil, or_false] at hg
        omega
      have hn2 := List.all_eq_true.1 hn
      simp [binN, formB, kindB, foB, foOf, noneF, inB, textB, grpB, h0, h1, hr.1, hr.2.1, hr.2.2]
      exact ⟨hn2, by simpa using hbb⟩
  | neg => exact ⟨by rfl, rfl, rfl, by show (0 : Int) ≤ 1; decide⟩
theorem next_len {st : List Int} {x : Nd} (h0 : 0 ≤ x.parts) (h : x.parts ≤ st.length) : ((nextT st x).length : Int) = st.length - x.parts + 1 := by
  unfold nextT belowT
  rw [List.length_append, List.length_take, List.length_singleton]
  omega
theorem run_nodes : ∀ (L : List Nd) (i : Nat) (st : List Int), AllF L → 0 ≤ runK st.length L →
    (runT i st L).1 = 191 ∨ (runT i st L).1 = 192 ∨ ((runT i st L).1 = 0 ∧ ((runT i st L).2.2.length : Int) = runK st.length L) := by
  intro L
  induction L with
  | nil => intro i st _ h; exact .inr (.inr ⟨rfl, rfl⟩)
  | cons x r ih =>
    intro i st hf h
    obtain ⟨h1, h2, h3, h4⟩ := ndF_form (hf x List.mem_cons_self)
    rw [runK_cons] at h
    split at h
    · omega
    · rename_i hk
      have hc : codeT st x = 0 ∨ codeT st x = 191 ∨ codeT st x = 192 := by
        unfold codeT
        rw [if_neg (fun e => by
          rcases e with e | e
          · rw [h1] at e; cases e
          · omega), if_neg (by rw [h2]; decide)]
        split
        · exact .inl rfl
        · split
          · exact .inr (.inr rfl)
          · exact .inr (.inl rfl)
      rw [runT_cons, runK_cons, if_neg hk]
      have hl := next_len (st := st) (x := x) (by omega) (by omega)
      rcases hc with hc | hc | hc
      · rw [if_pos hc, show (st.length : Int) - partsK x.kind + 1 = ((nextT st x).length : Int) from by omega]
        refine ih (i + 1) (nextT st x) (fun y hy => hf y (List.mem_cons_of_mem _ hy)) ?_
        rw [hl, h3]; exact h
      · rw [if_neg (by omega)]; exact .inl hc
      · rw [if_neg (by omega)]; exact .inr (.inl hc)
/-- What is said of what is read. -/
theorem chk_nodes {s : ByteArray} {ns : List Nd} (h : parseR s = .ok ns) :
    ((chkT ns).2.2 = 0 ∧ (1 ≤ (chkT ns).1 ∧ (chkT ns).1 ≤ 3) ∧ (chkT ns).2.1 = 0) ∨ (((chkT ns).2.2 = 191 ∨ (chkT ns).2.2 = 192) ∧ (0 ≤ (chkT ns).2.1 ∧ (chkT ns).2.1 < ns.length) ∧ (chkT ns).1 = 0) := by
  obtain ⟨hf, hk, hl⟩ := parse_nodes h
  have hr := run_nodes ns 0 [] hf (by show 0 ≤ runK 0 ns; omega)
  have hat := runT_at ns 0 []
  have hty := runT_types ns 0 [] (fun k hk => (List.not_mem_nil hk).elim)
  unfold chkT
  generalize runT 0 [] ns = R at *
  obtain ⟨c, i, st⟩ := R
  simp only at hr hat hty ⊢
  rcases hr with rfl | rfl | ⟨rfl, hlen⟩
  · have := hat (by decide)
    right
    rw [if_neg (by decide)]
    exact ⟨.inl rfl, ⟨by show (0 : Int) ≤ (i : Int); omega, by show (i : Int) < _; omega⟩, rfl⟩
  · have := hat (by decide)
    right
    rw [if_neg (by decide)]
    exact ⟨.inr rfl, ⟨by show (0 : Int) ≤ (i : Int); omega, by show (i : Int) < _; omega⟩, rfl⟩
  · left
    have h1 : st.length = 1 := by
      have e : runK (([] : List Int).length : Int) ns = 1 := hk
      omega
    rw [if_pos rfl, if_neg (by omega)]
    cases st with
    | nil => cases h1
    | cons k r =>
      refine ⟨rfl, ?_, rfl⟩
      show 1 ≤ k ∧ k ≤ 3
      rcases hty k List.mem_cons_self with rfl | rfl | rfl <;> decide
end Go.Proofs.YthbodkgcbfplgaaGreat

