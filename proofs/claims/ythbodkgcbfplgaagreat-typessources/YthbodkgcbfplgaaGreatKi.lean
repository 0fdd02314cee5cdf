/- Package types: a node takes its parts' place. -/
import Derived.Test.YthbodkgcbfplgaaGreatKh
namespace Go.Proofs.YthbodkgcbfplgaaGreat
open Go.RowKit
set_option linter.unusedVariables false
set_option linter.unusedSimpArgs false
set_option maxRecDepth 20000

theorem m_check2 (a : Option Addr) (c : Nat) (l : List Mt) (w : World) (h : SRd matE w a l) (hl : l.length ≤ 9223372036854775807) :
    Calls Tryz.prog 31 #[.slice a l.length c] w fun e w' => ∃ r : Int, e = .returned (.int .i64 r) ∧ Hid (decide (r = 0) = matsB l) ∧ w.grownBy w' none := by
  by_cases h8 : 8 < l.length
  · have HB : Hid (matsB l = false) := by show _ = _; unfold matsB; rw [decide_eq_false (by omega)]; rfl
    have q0 : decide ((8 : Int) < (l.length : Int)) = true := by simp; omega
    clear h
    go_enter Tryz.func31, Tryz.ntmps31
    go_wp2
    go_ret
    exact ⟨41, rfl, by show _ = _; rw [HB.out]; rfl, World.grownBy.refl _ _⟩
  · exact m_check a c l w h (by omega)
theorem wx_cells {w : World} {g : Nat} {kd op wi ba gr pa : Int} {tx : ByteArray} {ms ns pv : Value} {bo : Bool} (h : w.heap[g]? = some (.cells #[.int .i64 kd, .int .i64 op, .string tx, ms, .int .i64 wi, .int .i64 ba, .int .i64 gr, ns, .bool bo, .int .i64 pa, pv] 67 (0, 0))) :
    w.cell? ⟨g, 0, none⟩ = some (.int .i64 kd) ∧ w.cell? ⟨g, 1, none⟩ = some (.int .i64 op) ∧ w.cell? ⟨g, 2, none⟩ = some (.string tx) ∧ w.cell? ⟨g, 3, none⟩ = some ms ∧ w.cell? ⟨g, 4, none⟩ = some (.int .i64 wi) ∧ w.cell? ⟨g, 5, none⟩ = some (.int .i64 ba) ∧ w.cell? ⟨g, 6, none⟩ = some (.int .i64 gr) ∧ w.cell? ⟨g, 7, none⟩ = some ns ∧ w.cell? ⟨g, 8, none⟩ = some (.bool bo) ∧ w.cell? ⟨g, 9, none⟩ = some (.int .i64 pa) ∧ w.cell? ⟨g, 10, none⟩ = some pv := by
  refine ⟨?_, ?_, ?_, ?_, ?_, ?_, ?_, ?_, ?_, ?_, ?_⟩ <;> (rw [cell_of_row _ _ _ _ _ _ h]; rfl)
theorem own_len (a : Option Addr) (n k c : Nat) : (Value.slice a n c).ownBlock = (Value.slice a k c).ownBlock := by cases a <;> rfl
theorem take_end {W w3 : World} {p k : Nat} {a : Option Addr} {c : Nat} {st : List Int} {kd : Int} {g3 c3 : Nat} (h : StAt W p a c st) (hk : k ≤ st.length)
    (ho : SOwn numE 50 w3 (p + 1) (.slice (some ⟨g3, 0, none⟩) (k + 1) c3) (k + 1) (st.take k ++ [kd])) (hg : W.grownBy w3 (Value.slice a k c).ownBlock) (hgg : (Value.slice a k c).ownBlock = some g3 ∨ g3 = W.heap.size) :
    w3.cell? ⟨p, 0, none⟩ = some (.slice a st.length c) ∧ w3.frozen? ⟨p, 0, none⟩ = false ∧ StAt (w3.setCell ⟨p, 0, none⟩ (.slice (some ⟨g3, 0, none⟩) (k + 1) c3)) p (some ⟨g3, 0, none⟩) c3 (st.take k ++ [kd]) ∧ Fr (fun j => p ≤ j) W (w3.setCell ⟨p, 0, none⟩ (.slice (some ⟨g3, 0, none⟩) (k + 1) c3)) := by
  have hlt := h.lt
  have hbl : ∀ j, (Value.slice a k c).ownBlock = some j → p + 1 ≤ j := fun j hj => (SOwn.block h.own j (by rw [own_len a st.length k c]; exact hj)).1
  have hpn : some p ≠ (Value.slice a k c).ownBlock := fun e => by have := hbl p e.symm; omega
  have row3 := (hg.block p hlt hpn).trans h.row
  have hg3 : p + 1 ≤ g3 := by
    rcases hgg with e | e
    · exact hbl _ e
    · omega
  have hlen : (st.take k ++ [kd]).length = k + 1 := by rw [List.length_append, List.length_take, List.length_singleton]; omega
  refine ⟨one_cell row3, free_row row3 0, ⟨?_, ?_⟩, ?_⟩
  · rw [hlen]; exact one_set row3 _
  · rw [hlen]
    refine sown_same ho (fun j hj _ => ?_)
    cases hj
    exact set_other (by show g3 ≠ p; omega)
  · exact (Fr.row (S := fun j => p ≤ j) hg (fun j hj => by have := hbl j hj; show p ≤ j; omega)).trans ((fr_set p 0 w3 _).mono (S' := fun j => p ≤ j) (fun j _ e => by change j = p at e; show p ≤ j; omega)) (fun _ _ e => e)
set_option maxHeartbeats 4000000 in
theorem take_mat (W0 : World) (p : Nat) (a : Option Addr) (c : Nat) (st : List Int) (x : Nd) (ma na : Option Addr) (mc nc : Nat) (h : StAt W0 p a c st) (hq : NdRd W0 (x, (ma, x.mat.length, mc), (na, x.names.length, nc)))
    (hf : formB x = true) (hp : ¬ (st.length : Int) < x.parts) (hm : matsB x.mat = false) :
    Calls Tryz.prog 20 #[.pointer (some ⟨p, 0, none⟩), .agg (ndA x (ma, x.mat.length, mc) (na, x.names.length, nc))] W0 (TkQ p st x W0) := by
  have g0 := World.grownBy_alloc W0 (.cells (ndA x (ma, x.mat.length, mc) (na, x.names.length, nc)) 37) none
  have G0 := hid g0
  have HB := hid (heap_alloc_new W0 (.cells (ndA x (ma, x.mat.length, mc) (na, x.names.length, nc)) 37))
  have hsz := size_alloc W0 (.cells (ndA x (ma, x.mat.length, mc) (na, x.names.length, nc)) 37)
  have HZ : Hid (W0.heap.size < (W0.alloc (.cells (ndA x (ma, x.mat.length, mc) (na, x.names.length, nc)) 37)).heap.size) := by show _ < _; omega
  have GD := hid (gb_drew (World.grownBy.refl (W0.alloc (.cells (ndA x (ma, x.mat.length, mc) (na, x.names.length, nc)) 37)) none))
  have HFM := hid (f_hasForm (x, (ma, x.mat.length, mc), (na, x.names.length, nc)) _ (hq.grown (g0.trans GD.out)))
  have HST : Hid (∀ W, (W0.alloc (.cells (ndA x (ma, x.mat.length, mc) (na, x.names.length, nc)) 37)).grownBy W none → StAt W p a c st) := fun W hg => h.grown (g0.trans hg)
  have HMC : Hid (∀ W, W0.grownBy W none → Calls Tryz.prog 31 #[.slice ma x.mat.length mc] W fun e w' => ∃ r : Int, e = .returned (.int .i64 r) ∧ Hid (decide (r = 0) = matsB x.mat) ∧ W.grownBy w' none) := fun W hg => m_check2 ma mc x.mat W (hq.mat.grown hg (by simp)) hq.mz
  have HC : Hid (codeT st x = 193) := by
    show _ = _; unfold codeT; rw [if_neg (fun e => by
      rcases e with e | e
      · rw [hf] at e; cases e
      · exact hp e), if_pos hm]
  have HM := hid hm
  have hd : decide ((st.length : Int) < x.parts) = false := by simpa using hp
  simp only [hf] at HFM
  clear hm
  clear h hq g0 hsz hf hp
  unfold ndA slV at *
  try dsimp only at *
  go_enter Tryz.func20, Tryz.ntmps20
  go_upto_region 1 with fail
  refine wp_region_held_drew (S := fun V => (W0.alloc (.cells #[.int .i64 x.kind, .int .i64 x.op, .string x.text, .slice ma x.mat.length mc, .int .i64 x.width, .int .i64 x.back, .int .i64 x.group, .slice na x.names.length nc, .bool x.bool, .int .i64 x.parts] 37)).grownBy V none) (by kernel_rfl) GD.out (fun hHeld => ?_)
  refine wpAnyH_take (i := 0) (v := .agg #[.int .i64 x.kind, .int .i64 x.op, .string x.text, .slice ma x.mat.length mc, .int .i64 x.width, .int .i64 x.back, .int .i64 x.group, .slice na x.names.length nc, .bool x.bool, .int .i64 x.parts]) rfl (by kernel_rfl) (by kernel_rfl) (by kernel_rfl) (fun _ _ _ h => h) (Or.inl ⟨by kernel_rfl, fun w hSw => ?_⟩) (by assumption) ?_
  · obtain ⟨c0, c1, c2, c3, c4, c5, c6, c7, c8, c9⟩ := nx_cells ((hSw.block W0.heap.size HZ.out (by simp)).trans HB.out); go_simp
  (try simp (maxSteps := 10000000) only [Act.put, List.getElem_toArray, List.getElem_cons_succ, List.getElem_cons_zero]); (try simp (maxSteps := 10000000) only [List.setIfInBounds_toArray]); (try simp (maxSteps := 10000000) only [List.set_cons_succ]); (try simp (maxSteps := 10000000) only [List.set_cons_zero])
  refine wpAnyH_ready (rs := [1]) (by kernel_rfl) (by simp) (AllReadyH.cons (i := 1) rfl (fun K9 hK => ?_) AllReadyH.nil)
  go_simp
  refine (HFM.out).mono ?_
  rintro e w1 ⟨rfl, hg⟩
  have s1 := GD.out.trans hg
  clear hg
  refine hK.out _ _ s1 (fun hHeld => ?_)
  clear hK K9 hHeld
  (try simp (maxSteps := 10000000) only [Act.put, List.getElem_toArray, List.getElem_cons_succ, List.getElem_cons_zero]); (try simp (maxSteps := 10000000) only [List.setIfInBounds_toArray]); (try simp (maxSteps := 10000000) only [List.set_cons_succ]); (try simp (maxSteps := 10000000) only [List.set_cons_zero])
  refine wpAnyH_take (i := 2) (v := .bool false) rfl (by kernel_rfl) (by kernel_rfl) (by kernel_rfl) (fun _ _ _ h => h) (Or.inl ⟨by kernel_rfl, fun w hSw => ?_⟩) (by assumption) ?_
  · go_simp
  (try simp (maxSteps := 10000000) only [Act.put, List.getElem_toArray, List.getElem_cons_succ, List.getElem_cons_zero]); (try simp (maxSteps := 10000000) only [List.setIfInBounds_toArray]); (try simp (maxSteps := 10000000) only [List.set_cons_succ]); (try simp (maxSteps := 10000000) only [List.set_cons_zero])
  refine wpAnyH_take (i := 3) (v := .bool false) rfl (by kernel_rfl) (by kernel_rfl) (by kernel_rfl) (fun _ _ _ h => h) (Or.inl ⟨by kernel_rfl, fun w hSw => ?_⟩) (by assumption) ?_
  · go_simp
  (try simp (maxSteps := 10000000) only [Act.put, List.getElem_toArray, List.getElem_cons_succ, List.getElem_cons_zero]); (try simp (maxSteps := 10000000) only [List.setIfInBounds_toArray]); (try simp (maxSteps := 10000000) only [List.set_cons_succ]); (try simp (maxSteps := 10000000) only [List.set_cons_zero])
  refine wpAnyH_take (i := 4) (v := .pointer (some ⟨W0.heap.size, 9, none⟩)) rfl (by kernel_rfl) (by kernel_rfl) (by kernel_rfl) (fun _ _ _ h => h) (Or.inl ⟨by kernel_rfl, fun w hSw => ?_⟩) (by assumption) ?_
  · go_simp
  (try simp (maxSteps := 10000000) only [Act.put, List.getElem_toArray, List.getElem_cons_succ, List.getElem_cons_zero]); (try simp (maxSteps := 10000000) only [List.setIfInBounds_toArray]); (try simp (maxSteps := 10000000) only [List.set_cons_succ]); (try simp (maxSteps := 10000000) only [List.set_cons_zero])
  refine wpAnyH_take (i := 5) (v := .int .i64 x.parts) rfl (by kernel_rfl) (by kernel_rfl) (by kernel_rfl) (fun _ _ _ h => h) (Or.inl ⟨by kernel_rfl, fun w hSw => ?_⟩) (by assumption) ?_
  · obtain ⟨c0, c1, c2, c3, c4, c5, c6, c7, c8, c9⟩ := nx_cells ((hSw.block W0.heap.size HZ.out (by simp)).trans HB.out); go_simp
  (try simp (maxSteps := 10000000) only [Act.put, List.getElem_toArray, List.getElem_cons_succ, List.getElem_cons_zero]); (try simp (maxSteps := 10000000) only [List.setIfInBounds_toArray]); (try simp (maxSteps := 10000000) only [List.set_cons_succ]); (try simp (maxSteps := 10000000) only [List.set_cons_zero])
  refine wpAnyH_take (i := 6) (v := .pointer (some ⟨p, 0, none⟩)) rfl (by kernel_rfl) (by kernel_rfl) (by kernel_rfl) (fun _ _ _ h => h) (Or.inl ⟨by kernel_rfl, fun w hSw => ?_⟩) (by assumption) ?_
  · go_simp
  (try simp (maxSteps := 10000000) only [Act.put, List.getElem_toArray, List.getElem_cons_succ, List.getElem_cons_zero]); (try simp (maxSteps := 10000000) only [List.setIfInBounds_toArray]); (try simp (maxSteps := 10000000) only [List.set_cons_succ]); (try simp (maxSteps := 10000000) only [List.set_cons_zero])
  refine wpAnyH_take (i := 7) (v := .pointer (some ⟨p, 0, none⟩)) rfl (by kernel_rfl) (by kernel_rfl) (by kernel_rfl) (fun _ _ _ h => h) (Or.inl ⟨by kernel_rfl, fun w hSw => ?_⟩) (by assumption) ?_
  · go_simp
  (try simp (maxSteps := 10000000) only [Act.put, List.getElem_toArray, List.getElem_cons_succ, List.getElem_cons_zero]); (try simp (maxSteps := 10000000) only [List.setIfInBounds_toArray]); (try simp (maxSteps := 10000000) only [List.set_cons_succ]); (try simp (maxSteps := 10000000) only [List.set_cons_zero])
  refine wpAnyH_take (i := 8) (v := .slice a st.length c) rfl (by kernel_rfl) (by kernel_rfl) (by kernel_rfl) (fun _ _ _ h => h) (Or.inl ⟨by kernel_rfl, fun w hSw => ?_⟩) (by assumption) ?_
  · have x9 := (HST.out _ hSw).cell; go_simp
  (try simp (maxSteps := 10000000) only [Act.put, List.getElem_toArray, List.getElem_cons_succ, List.getElem_cons_zero]); (try simp (maxSteps := 10000000) only [List.setIfInBounds_toArray]); (try simp (maxSteps := 10000000) only [List.set_cons_succ]); (try simp (maxSteps := 10000000) only [List.set_cons_zero])
  refine wpAnyH_take (i := 9) (v := .int .i64 (st.length : Int)) rfl (by kernel_rfl) (by kernel_rfl) (by kernel_rfl) (fun _ _ _ h => h) (Or.inl ⟨by kernel_rfl, fun w hSw => ?_⟩) (by assumption) ?_
  · go_simp
  (try simp (maxSteps := 10000000) only [Act.put, List.getElem_toArray, List.getElem_cons_succ, List.getElem_cons_zero]); (try simp (maxSteps := 10000000) only [List.setIfInBounds_toArray]); (try simp (maxSteps := 10000000) only [List.set_cons_succ]); (try simp (maxSteps := 10000000) only [List.set_cons_zero])
  refine wpAnyH_take (i := 10) (v := .bool false) rfl (by kernel_rfl) (by kernel_rfl) (by kernel_rfl) (fun _ _ _ h => h) (Or.inl ⟨by kernel_rfl, fun w hSw => ?_⟩) (by assumption) ?_
  · go_simp
  (try simp (maxSteps := 10000000) only [Act.put, List.getElem_toArray, List.getElem_cons_succ, List.getElem_cons_zero]); (try simp (maxSteps := 10000000) only [List.setIfInBounds_toArray]); (try simp (maxSteps := 10000000) only [List.set_cons_succ]); (try simp (maxSteps := 10000000) only [List.set_cons_zero])
  refine wpAnyH_take (i := 11) (v := .bool false) rfl (by kernel_rfl) (by kernel_rfl) (by kernel_rfl) (fun _ _ _ h => h) (Or.inl ⟨by kernel_rfl, fun w hSw => ?_⟩) (by assumption) ?_
  · go_simp
  (try simp (maxSteps := 10000000) only [Act.put, List.getElem_toArray, List.getElem_cons_succ, List.getElem_cons_zero]); (try simp (maxSteps := 10000000) only [List.setIfInBounds_toArray]); (try simp (maxSteps := 10000000) only [List.set_cons_succ]); (try simp (maxSteps := 10000000) only [List.set_cons_zero])
  refine wpAnyH_done (by kernel_rfl) ?_ _
  obtain ⟨c0, c1, c2, c3, c4, c5, c6, c7, c8, c9⟩ := nx_cells ((s1.block W0.heap.size HZ.out (by simp)).trans HB.out)
  go_wp2_with fail
  refine (HMC.out _ (G0.out.trans s1)).mono ?_
  rintro e w2 ⟨r, rfl, hr, hg⟩
  have s2 := s1.trans hg
  clear hg
  clear c0 c1 c2 c3 c4 c5 c6 c7 c8 c9
  have q0 : (r != 0) = true := by
    have := hr.out
    rw [HM.out] at this
    simpa using this
  go_wp2
  go_ret
  unfold TkQ
  rw [HC.out, if_neg (by decide)]
  exact ⟨rfl, a, c, HST.out _ s2, Fr.of (G0.out.trans s2)⟩
set_option maxHeartbeats 4000000 in
theorem take_go (W0 : World) (p : Nat) (a : Option Addr) (c : Nat) (st : List Int) (x : Nd) (ma na : Option Addr) (mc nc : Nat) (h : StAt W0 p a c st) (hq : NdRd W0 (x, (ma, x.mat.length, mc), (na, x.names.length, nc)))
    (hf : formB x = true) (hp : ¬ (st.length : Int) < x.parts) (hm : matsB x.mat = true) (hl : st.length ≤ 10000000000000) (k : Nat) (hk : (st.length : Int) - x.parts = (k : Int)) (hpl : x.parts ≤ 2) :
    Calls Tryz.prog 20 #[.pointer (some ⟨p, 0, none⟩), .agg (ndA x (ma, x.mat.length, mc) (na, x.names.length, nc))] W0 (TkQ p st x W0) := by
  have g0 := World.grownBy_alloc W0 (.cells (ndA x (ma, x.mat.length, mc) (na, x.names.length, nc)) 37) none
  have G0 := hid g0
  have HB := hid (heap_alloc_new W0 (.cells (ndA x (ma, x.mat.length, mc) (na, x.names.length, nc)) 37))
  have hsz := size_alloc W0 (.cells (ndA x (ma, x.mat.length, mc) (na, x.names.length, nc)) 37)
  have HZ : Hid (W0.heap.size < (W0.alloc (.cells (ndA x (ma, x.mat.length, mc) (na, x.names.length, nc)) 37)).heap.size) := by show _ < _; omega
  have GD := hid (gb_drew (World.grownBy.refl (W0.alloc (.cells (ndA x (ma, x.mat.length, mc) (na, x.names.length, nc)) 37)) none))
  have HFM := hid (f_hasForm (x, (ma, x.mat.length, mc), (na, x.names.length, nc)) _ (hq.grown (g0.trans GD.out)))
  have HST : Hid (∀ W, (W0.alloc (.cells (ndA x (ma, x.mat.length, mc) (na, x.names.length, nc)) 37)).grownBy W none → StAt W p a c st) := fun W hg => h.grown (g0.trans hg)
  have HMC : Hid (∀ W, W0.grownBy W none → Calls Tryz.prog 31 #[.slice ma x.mat.length mc] W fun e w' => ∃ r : Int, e = .returned (.int .i64 r) ∧ Hid (decide (r = 0) = matsB x.mat) ∧ W.grownBy w' none) := fun W hg => m_check2 ma mc x.mat W (hq.mat.grown hg (by simp)) hq.mz
  have HM := hid hm
  have HB1 : Hid (k ≤ st.length ∧ st.length ≤ k + 2) := by
    have := parts_range hf
    show _ ∧ _
    omega
  have HK := hid hk
  have hd : decide ((st.length : Int) < x.parts) = false := by simpa using hp
  simp only [hf] at HFM
  have HLE := hid h.le
  have HFP : Hid (¬ (formB x = false ∨ (st.length : Int) < x.parts)) := fun e => by
    rcases e with e | e
    · rw [hf] at e; cases e
    · exact hp e
  clear hm
  clear h hq g0 hsz hf hp
  unfold ndA slV at *
  try dsimp only at *
  go_enter Tryz.func20, Tryz.ntmps20
  go_upto_region 1 with fail
  refine wp_region_held_drew (S := fun V => (W0.alloc (.cells #[.int .i64 x.kind, .int .i64 x.op, .string x.text, .slice ma x.mat.length mc, .int .i64 x.width, .int .i64 x.back, .int .i64 x.group, .slice na x.names.length nc, .bool x.bool, .int .i64 x.parts] 37)).grownBy V none) (by kernel_rfl) GD.out (fun hHeld => ?_)
  refine wpAnyH_take (i := 0) (v := .agg #[.int .i64 x.kind, .int .i64 x.op, .string x.text, .slice ma x.mat.length mc, .int .i64 x.width, .int .i64 x.back, .int .i64 x.group, .slice na x.names.length nc, .bool x.bool, .int .i64 x.parts]) rfl (by kernel_rfl) (by kernel_rfl) (by kernel_rfl) (fun _ _ _ h => h) (Or.inl ⟨by kernel_rfl, fun w hSw => ?_⟩) (by assumption) ?_
  · obtain ⟨c0, c1, c2, c3, c4, c5, c6, c7, c8, c9⟩ := nx_cells ((hSw.block W0.heap.size HZ.out (by simp)).trans HB.out); go_simp
  (try simp (maxSteps := 10000000) only [Act.put, List.getElem_toArray, List.getElem_cons_succ, List.getElem_cons_zero]); (try simp (maxSteps := 10000000) only [List.setIfInBounds_toArray]); (try simp (maxSteps := 10000000) only [List.set_cons_succ]); (try simp (maxSteps := 10000000) only [List.set_cons_zero])
  refine wpAnyH_ready (rs := [1]) (by kernel_rfl) (by simp) (AllReadyH.cons (i := 1) rfl (fun K9 hK => ?_) AllReadyH.nil)
  go_simp
  refine (HFM.out).mono ?_
  rintro e w1 ⟨rfl, hg⟩
  have s1 := GD.out.trans hg
  clear hg
  refine hK.out _ _ s1 (fun hHeld => ?_)
  clear hK K9 hHeld
  (try simp (maxSteps := 10000000) only [Act.put, List.getElem_toArray, List.getElem_cons_succ, List.getElem_cons_zero]); (try simp (maxSteps := 10000000) only [List.setIfInBounds_toArray]); (try simp (maxSteps := 10000000) only [List.set_cons_succ]); (try simp (maxSteps := 10000000) only [List.set_cons_zero])
  refine wpAnyH_take (i := 2) (v := .bool false) rfl (by kernel_rfl) (by kernel_rfl) (by kernel_rfl) (fun _ _ _ h => h) (Or.inl ⟨by kernel_rfl, fun w hSw => ?_⟩) (by assumption) ?_
  · go_simp
  (try simp (maxSteps := 10000000) only [Act.put, List.getElem_toArray, List.getElem_cons_succ, List.getElem_cons_zero]); (try simp (maxSteps := 10000000) only [List.setIfInBounds_toArray]); (try simp (maxSteps := 10000000) only [List.set_cons_succ]); (try simp (maxSteps := 10000000) only [List.set_cons_zero])
  refine wpAnyH_take (i := 3) (v := .bool false) rfl (by kernel_rfl) (by kernel_rfl) (by kernel_rfl) (fun _ _ _ h => h) (Or.inl ⟨by kernel_rfl, fun w hSw => ?_⟩) (by assumption) ?_
  · go_simp
  (try simp (maxSteps := 10000000) only [Act.put, List.getElem_toArray, List.getElem_cons_succ, List.getElem_cons_zero]); (try simp (maxSteps := 10000000) only [List.setIfInBounds_toArray]); (try simp (maxSteps := 10000000) only [List.set_cons_succ]); (try simp (maxSteps := 10000000) only [List.set_cons_zero])
  refine wpAnyH_take (i := 4) (v := .pointer (some ⟨W0.heap.size, 9, none⟩)) rfl (by kernel_rfl) (by kernel_rfl) (by kernel_rfl) (fun _ _ _ h => h) (Or.inl ⟨by kernel_rfl, fun w hSw => ?_⟩) (by assumption) ?_
  · go_simp
  (try simp (maxSteps := 10000000) only [Act.put, List.getElem_toArray, List.getElem_cons_succ, List.getElem_cons_zero]); (try simp (maxSteps := 10000000) only [List.setIfInBounds_toArray]); (try simp (maxSteps := 10000000) only [List.set_cons_succ]); (try simp (maxSteps := 10000000) only [List.set_cons_zero])
  refine wpAnyH_take (i := 5) (v := .int .i64 x.parts) rfl (by kernel_rfl) (by kernel_rfl) (by kernel_rfl) (fun _ _ _ h => h) (Or.inl ⟨by kernel_rfl, fun w hSw => ?_⟩) (by assumption) ?_
  · obtain ⟨c0, c1, c2, c3, c4, c5, c6, c7, c8, c9⟩ := nx_cells ((hSw.block W0.heap.size HZ.out (by simp)).trans HB.out); go_simp
  (try simp (maxSteps := 10000000) only [Act.put, List.getElem_toArray, List.getElem_cons_succ, List.getElem_cons_zero]); (try simp (maxSteps := 10000000) only [List.setIfInBounds_toArray]); (try simp (maxSteps := 10000000) only [List.set_cons_succ]); (try simp (maxSteps := 10000000) only [List.set_cons_zero])
  refine wpAnyH_take (i := 6) (v := .pointer (some ⟨p, 0, none⟩)) rfl (by kernel_rfl) (by kernel_rfl) (by kernel_rfl) (fun _ _ _ h => h) (Or.inl ⟨by kernel_rfl, fun w hSw => ?_⟩) (by assumption) ?_
  · go_simp
  (try simp (maxSteps := 10000000) only [Act.put, List.getElem_toArray, List.getElem_cons_succ, List.getElem_cons_zero]); (try simp (maxSteps := 10000000) only [List.setIfInBounds_toArray]); (try simp (maxSteps := 10000000) only [List.set_cons_succ]); (try simp (maxSteps := 10000000) only [List.set_cons_zero])
  refine wpAnyH_take (i := 7) (v := .pointer (some ⟨p, 0, none⟩)) rfl (by kernel_rfl) (by kernel_rfl) (by kernel_rfl) (fun _ _ _ h => h) (Or.inl ⟨by kernel_rfl, fun w hSw => ?_⟩) (by assumption) ?_
  · go_simp
  (try simp (maxSteps := 10000000) only [Act.put, List.getElem_toArray, List.getElem_cons_succ, List.getElem_cons_zero]); (try simp (maxSteps := 10000000) only [List.setIfInBounds_toArray]); (try simp (maxSteps := 10000000) only [List.set_cons_succ]); (try simp (maxSteps := 10000000) only [List.set_cons_zero])
  refine wpAnyH_take (i := 8) (v := .slice a st.length c) rfl (by kernel_rfl) (by kernel_rfl) (by kernel_rfl) (fun _ _ _ h => h) (Or.inl ⟨by kernel_rfl, fun w hSw => ?_⟩) (by assumption) ?_
  · have x9 := (HST.out _ hSw).cell; go_simp
  (try simp (maxSteps := 10000000) only [Act.put, List.getElem_toArray, List.getElem_cons_succ, List.getElem_cons_zero]); (try simp (maxSteps := 10000000) only [List.setIfInBounds_toArray]); (try simp (maxSteps := 10000000) only [List.set_cons_succ]); (try simp (maxSteps := 10000000) only [List.set_cons_zero])
  refine wpAnyH_take (i := 9) (v := .int .i64 (st.length : Int)) rfl (by kernel_rfl) (by kernel_rfl) (by kernel_rfl) (fun _ _ _ h => h) (Or.inl ⟨by kernel_rfl, fun w hSw => ?_⟩) (by assumption) ?_
  · go_simp
  (try simp (maxSteps := 10000000) only [Act.put, List.getElem_toArray, List.getElem_cons_succ, List.getElem_cons_zero]); (try simp (maxSteps := 10000000) only [List.setIfInBounds_toArray]); (try simp (maxSteps := 10000000) only [List.set_cons_succ]); (try simp (maxSteps := 10000000) only [List.set_cons_zero])
  refine wpAnyH_take (i := 10) (v := .bool false) rfl (by kernel_rfl) (by kernel_rfl) (by kernel_rfl) (fun _ _ _ h => h) (Or.inl ⟨by kernel_rfl, fun w hSw => ?_⟩) (by assumption) ?_
  · go_simp
  (try simp (maxSteps := 10000000) only [Act.put, List.getElem_toArray, List.getElem_cons_succ, List.getElem_cons_zero]); (try simp (maxSteps := 10000000) only [List.setIfInBounds_toArray]); (try simp (maxSteps := 10000000) only [List.set_cons_succ]); (try simp (maxSteps := 10000000) only [List.set_cons_zero])
  refine wpAnyH_take (i := 11) (v := .bool false) rfl (by kernel_rfl) (by kernel_rfl) (by kernel_rfl) (fun _ _ _ h => h) (Or.inl ⟨by kernel_rfl, fun w hSw => ?_⟩) (by assumption) ?_
  · go_simp
  (try simp (maxSteps := 10000000) only [Act.put, List.getElem_toArray, List.getElem_cons_succ, List.getElem_cons_zero]); (try simp (maxSteps := 10000000) only [List.setIfInBounds_toArray]); (try simp (maxSteps := 10000000) only [List.set_cons_succ]); (try simp (maxSteps := 10000000) only [List.set_cons_zero])
  refine wpAnyH_done (by kernel_rfl) ?_ _
  obtain ⟨c0, c1, c2, c3, c4, c5, c6, c7, c8, c9⟩ := nx_cells ((s1.block W0.heap.size HZ.out (by simp)).trans HB.out)
  go_wp2_with fail
  refine (HMC.out _ (G0.out.trans s1)).mono ?_
  rintro e w2 ⟨r, rfl, hr, hg⟩
  have s2 := s1.trans hg
  clear hg
  clear c0 c1 c2 c3 c4 c5 c6 c7 c8 c9
  obtain rfl : r = 0 := by
    have := hr.out
    rw [HM.out] at this
    simpa using this
  clear hr
  have GD2 := hid (gb_drew s2)
  have hl1 : (st.length : Int) ≤ 10000000000000 := by omega
  have hk0 : 0 ≤ (k : Int) := by omega
  have hk1 : (k : Int) ≤ (st.length : Int) := by have := HB1.out.1; omega
  have hwk : IntKind.i64.wrap (k : Int) = (k : Int) := by
    simp [IntKind.wrap, IntKind.bits, IntKind.signed]
    omega
  go_upto_region 5 with fail
  refine wp_region_held_drew (S := fun V => (W0.alloc (.cells #[.int .i64 x.kind, .int .i64 x.op, .string x.text, .slice ma x.mat.length mc, .int .i64 x.width, .int .i64 x.back, .int .i64 x.group, .slice na x.names.length nc, .bool x.bool, .int .i64 x.parts] 37)).grownBy V none) (by kernel_rfl) GD2.out (fun hHeld => ?_)
  refine wpAnyH_take (i := 0) (v := .pointer (some ⟨p, 0, none⟩)) rfl (by kernel_rfl) (by kernel_rfl) (by kernel_rfl) (fun _ _ _ h => h) (Or.inl ⟨by kernel_rfl, fun w hSw => ?_⟩) (by assumption) ?_
  · go_simp
  (try simp (maxSteps := 10000000) only [Act.put, List.getElem_toArray, List.getElem_cons_succ, List.getElem_cons_zero]); (try simp (maxSteps := 10000000) only [List.setIfInBounds_toArray]); (try simp (maxSteps := 10000000) only [List.set_cons_succ]); (try simp (maxSteps := 10000000) only [List.set_cons_zero])
  refine wpAnyH_take (i := 1) (v := .pointer (some ⟨p, 0, none⟩)) rfl (by kernel_rfl) (by kernel_rfl) (by kernel_rfl) (fun _ _ _ h => h) (Or.inl ⟨by kernel_rfl, fun w hSw => ?_⟩) (by assumption) ?_
  · go_simp
  (try simp (maxSteps := 10000000) only [Act.put, List.getElem_toArray, List.getElem_cons_succ, List.getElem_cons_zero]); (try simp (maxSteps := 10000000) only [List.setIfInBounds_toArray]); (try simp (maxSteps := 10000000) only [List.set_cons_succ]); (try simp (maxSteps := 10000000) only [List.set_cons_zero])
  refine wpAnyH_take (i := 2) (v := .slice a st.length c) rfl (by kernel_rfl) (by kernel_rfl) (by kernel_rfl) (fun _ _ _ h => h) (Or.inl ⟨by kernel_rfl, fun w hSw => ?_⟩) (by assumption) ?_
  · have x9 := (HST.out _ hSw).cell; go_simp
  (try simp (maxSteps := 10000000) only [Act.put, List.getElem_toArray, List.getElem_cons_succ, List.getElem_cons_zero]); (try simp (maxSteps := 10000000) only [List.setIfInBounds_toArray]); (try simp (maxSteps := 10000000) only [List.set_cons_succ]); (try simp (maxSteps := 10000000) only [List.set_cons_zero])
  refine wpAnyH_take (i := 3) (v := .int .i64 (st.length : Int)) rfl (by kernel_rfl) (by kernel_rfl) (by kernel_rfl) (fun _ _ _ h => h) (Or.inl ⟨by kernel_rfl, fun w hSw => ?_⟩) (by assumption) ?_
  · go_simp
  (try simp (maxSteps := 10000000) only [Act.put, List.getElem_toArray, List.getElem_cons_succ, List.getElem_cons_zero]); (try simp (maxSteps := 10000000) only [List.setIfInBounds_toArray]); (try simp (maxSteps := 10000000) only [List.set_cons_succ]); (try simp (maxSteps := 10000000) only [List.set_cons_zero])
  refine wpAnyH_take (i := 4) (v := .pointer (some ⟨W0.heap.size, 9, none⟩)) rfl (by kernel_rfl) (by kernel_rfl) (by kernel_rfl) (fun _ _ _ h => h) (Or.inl ⟨by kernel_rfl, fun w hSw => ?_⟩) (by assumption) ?_
  · go_simp
  (try simp (maxSteps := 10000000) only [Act.put, List.getElem_toArray, List.getElem_cons_succ, List.getElem_cons_zero]); (try simp (maxSteps := 10000000) only [List.setIfInBounds_toArray]); (try simp (maxSteps := 10000000) only [List.set_cons_succ]); (try simp (maxSteps := 10000000) only [List.set_cons_zero])
  refine wpAnyH_take (i := 5) (v := .int .i64 x.parts) rfl (by kernel_rfl) (by kernel_rfl) (by kernel_rfl) (fun _ _ _ h => h) (Or.inl ⟨by kernel_rfl, fun w hSw => ?_⟩) (by assumption) ?_
  · obtain ⟨c0, c1, c2, c3, c4, c5, c6, c7, c8, c9⟩ := nx_cells ((hSw.block W0.heap.size HZ.out (by simp)).trans HB.out); go_simp
  (try simp (maxSteps := 10000000) only [Act.put, List.getElem_toArray, List.getElem_cons_succ, List.getElem_cons_zero]); (try simp (maxSteps := 10000000) only [List.setIfInBounds_toArray]); (try simp (maxSteps := 10000000) only [List.set_cons_succ]); (try simp (maxSteps := 10000000) only [List.set_cons_zero])
  refine wpAnyH_take (i := 6) (v := .int .i64 (k : Int)) rfl (by kernel_rfl) (by kernel_rfl) (by kernel_rfl) (fun _ _ _ h => h) (Or.inl ⟨by kernel_rfl, fun w hSw => ?_⟩) (by assumption) ?_
  · go_simp
  (try simp (maxSteps := 10000000) only [Act.put, List.getElem_toArray, List.getElem_cons_succ, List.getElem_cons_zero]); (try simp (maxSteps := 10000000) only [List.setIfInBounds_toArray]); (try simp (maxSteps := 10000000) only [List.set_cons_succ]); (try simp (maxSteps := 10000000) only [List.set_cons_zero])
  refine wpAnyH_take (i := 7) (v := .int .i64 (k : Int)) rfl (by kernel_rfl) (by kernel_rfl) (by kernel_rfl) (fun _ _ _ h => h) (Or.inl ⟨by kernel_rfl, fun w hSw => ?_⟩) (by assumption) ?_
  · go_simp
  (try simp (maxSteps := 10000000) only [Act.put, List.getElem_toArray, List.getElem_cons_succ, List.getElem_cons_zero]); (try simp (maxSteps := 10000000) only [List.setIfInBounds_toArray]); (try simp (maxSteps := 10000000) only [List.set_cons_succ]); (try simp (maxSteps := 10000000) only [List.set_cons_zero])
  refine wpAnyH_done (by kernel_rfl) ?_ _
  obtain ⟨b9, c9, hsl, hsr⟩ := parts_from a st.length c k (by omega) (HLE.out)
  have GD3 := hid (gb_drew GD2.out)
  go_upto_region 6 with fail
  refine wp_region_held_drew (S := fun V => (W0.alloc (.cells #[.int .i64 x.kind, .int .i64 x.op, .string x.text, .slice ma x.mat.length mc, .int .i64 x.width, .int .i64 x.back, .int .i64 x.group, .slice na x.names.length nc, .bool x.bool, .int .i64 x.parts] 37)).grownBy V none) (by kernel_rfl) GD3.out (fun hHeld => ?_)
  refine wpAnyH_take (i := 0) (v := .agg #[.int .i64 x.kind, .int .i64 x.op, .string x.text, .slice ma x.mat.length mc, .int .i64 x.width, .int .i64 x.back, .int .i64 x.group, .slice na x.names.length nc, .bool x.bool, .int .i64 x.parts]) rfl (by kernel_rfl) (by kernel_rfl) (by kernel_rfl) (fun _ _ _ h => h) (Or.inl ⟨by kernel_rfl, fun w hSw => ?_⟩) (by assumption) ?_
  · obtain ⟨c0, c1, c2, c3, c4, c5, c6, c7, c8, c9⟩ := nx_cells ((hSw.block W0.heap.size HZ.out (by simp)).trans HB.out); go_simp
  (try simp (maxSteps := 10000000) only [Act.put, List.getElem_toArray, List.getElem_cons_succ, List.getElem_cons_zero]); (try simp (maxSteps := 10000000) only [List.setIfInBounds_toArray]); (try simp (maxSteps := 10000000) only [List.set_cons_succ]); (try simp (maxSteps := 10000000) only [List.set_cons_zero])
  refine wpAnyH_take (i := 1) (v := .pointer (some ⟨p, 0, none⟩)) rfl (by kernel_rfl) (by kernel_rfl) (by kernel_rfl) (fun _ _ _ h => h) (Or.inl ⟨by kernel_rfl, fun w hSw => ?_⟩) (by assumption) ?_
  · go_simp
  (try simp (maxSteps := 10000000) only [Act.put, List.getElem_toArray, List.getElem_cons_succ, List.getElem_cons_zero]); (try simp (maxSteps := 10000000) only [List.setIfInBounds_toArray]); (try simp (maxSteps := 10000000) only [List.set_cons_succ]); (try simp (maxSteps := 10000000) only [List.set_cons_zero])
  refine wpAnyH_take (i := 2) (v := .pointer (some ⟨p, 0, none⟩)) rfl (by kernel_rfl) (by kernel_rfl) (by kernel_rfl) (fun _ _ _ h => h) (Or.inl ⟨by kernel_rfl, fun w hSw => ?_⟩) (by assumption) ?_
  · go_simp
  (try simp (maxSteps := 10000000) only [Act.put, List.getElem_toArray, List.getElem_cons_succ, List.getElem_cons_zero]); (try simp (maxSteps := 10000000) only [List.setIfInBounds_toArray]); (try simp (maxSteps := 10000000) only [List.set_cons_succ]); (try simp (maxSteps := 10000000) only [List.set_cons_zero])
  refine wpAnyH_take (i := 3) (v := .slice a st.length c) rfl (by kernel_rfl) (by kernel_rfl) (by kernel_rfl) (fun _ _ _ h => h) (Or.inl ⟨by kernel_rfl, fun w hSw => ?_⟩) (by assumption) ?_
  · have x9 := (HST.out _ hSw).cell; go_simp
  (try simp (maxSteps := 10000000) only [Act.put, List.getElem_toArray, List.getElem_cons_succ, List.getElem_cons_zero]); (try simp (maxSteps := 10000000) only [List.setIfInBounds_toArray]); (try simp (maxSteps := 10000000) only [List.set_cons_succ]); (try simp (maxSteps := 10000000) only [List.set_cons_zero])
  refine wpAnyH_take (i := 4) (v := .int .i64 (k : Int)) rfl (by kernel_rfl) (by kernel_rfl) (by kernel_rfl) (fun _ _ _ h => h) (Or.inl ⟨by kernel_rfl, fun w hSw => ?_⟩) (by assumption) ?_
  · go_simp
  (try simp (maxSteps := 10000000) only [Act.put, List.getElem_toArray, List.getElem_cons_succ, List.getElem_cons_zero]); (try simp (maxSteps := 10000000) only [List.setIfInBounds_toArray]); (try simp (maxSteps := 10000000) only [List.set_cons_succ]); (try simp (maxSteps := 10000000) only [List.set_cons_zero])
  refine wpAnyH_take (i := 5) (v := .slice b9 (st.length - k) c9) rfl (by kernel_rfl) (by kernel_rfl) (by kernel_rfl) (fun _ _ _ h => h) (Or.inl ⟨by kernel_rfl, fun w hSw => ?_⟩) (by assumption) ?_
  · go_simp
  (try simp (maxSteps := 10000000) only [Act.put, List.getElem_toArray, List.getElem_cons_succ, List.getElem_cons_zero]); (try simp (maxSteps := 10000000) only [List.setIfInBounds_toArray]); (try simp (maxSteps := 10000000) only [List.set_cons_succ]); (try simp (maxSteps := 10000000) only [List.set_cons_zero])
  refine wpAnyH_take (i := 6) (v := .agg #[.int .i64 x.kind, .int .i64 x.op, .string x.text, .slice ma x.mat.length mc, .int .i64 x.width, .int .i64 x.back, .int .i64 x.group, .slice na x.names.length nc, .bool x.bool, .int .i64 x.parts, .slice b9 (st.length - k) c9]) rfl (by kernel_rfl) (by kernel_rfl) (by kernel_rfl) (fun _ _ _ h => h) (Or.inl ⟨by kernel_rfl, fun w hSw => ?_⟩) (by assumption) ?_
  · go_simp
  (try simp (maxSteps := 10000000) only [Act.put, List.getElem_toArray, List.getElem_cons_succ, List.getElem_cons_zero]); (try simp (maxSteps := 10000000) only [List.setIfInBounds_toArray]); (try simp (maxSteps := 10000000) only [List.set_cons_succ]); (try simp (maxSteps := 10000000) only [List.set_cons_zero])
  refine wpAnyH_ready (rs := [7]) (by kernel_rfl) (by simp) (AllReadyH.cons (i := 7) rfl (fun K9 hK => ?_) AllReadyH.nil)
  go_simp
  refine hK.out _ _ (GD3.out.trans (World.grownBy_alloc _ _ none)) (fun hHeld => ?_)
  clear hK K9 hHeld
  (try simp (maxSteps := 10000000) only [Act.put, List.getElem_toArray, List.getElem_cons_succ, List.getElem_cons_zero]); (try simp (maxSteps := 10000000) only [List.setIfInBounds_toArray]); (try simp (maxSteps := 10000000) only [List.set_cons_succ]); (try simp (maxSteps := 10000000) only [List.set_cons_zero])
  refine wpAnyH_ready (rs := [8]) (by kernel_rfl) (by simp) (AllReadyH.cons (i := 8) rfl (fun K9 hK => ?_) AllReadyH.nil)
  go_simp
  refine hK.out _ _ (GD3.out.trans (World.grownBy_alloc _ _ none)) (fun hHeld => ?_)
  clear hK K9 hHeld
  (try simp (maxSteps := 10000000) only [Act.put, List.getElem_toArray, List.getElem_cons_succ, List.getElem_cons_zero]); (try simp (maxSteps := 10000000) only [List.setIfInBounds_toArray]); (try simp (maxSteps := 10000000) only [List.set_cons_succ]); (try simp (maxSteps := 10000000) only [List.set_cons_zero])
  refine wpAnyH_done (by kernel_rfl) ?_ _
  have GA := GD3.out.trans (World.grownBy_alloc w2.drew.drew (.cells #[.int .i64 x.kind, .int .i64 x.op, .string x.text, .slice ma x.mat.length mc, .int .i64 x.width, .int .i64 x.back, .int .i64 x.group, .slice na x.names.length nc, .bool x.bool, .int .i64 x.parts, .slice b9 (st.length - k) c9] 67) none)
  have HWB := heap_alloc_new w2.drew.drew (.cells #[.int .i64 x.kind, .int .i64 x.op, .string x.text, .slice ma x.mat.length mc, .int .i64 x.width, .int .i64 x.back, .int .i64 x.group, .slice na x.names.length nc, .bool x.bool, .int .i64 x.parts, .slice b9 (st.length - k) c9] 67)
  have HZ2 : w2.heap.size < (w2.drew.drew.alloc (.cells #[.int .i64 x.kind, .int .i64 x.op, .string x.text, .slice ma x.mat.length mc, .int .i64 x.width, .int .i64 x.back, .int .i64 x.group, .slice na x.names.length nc, .bool x.bool, .int .i64 x.parts, .slice b9 (st.length - k) c9] 67)).heap.size := by rw [size_alloc]; show w2.heap.size < w2.heap.size + 1; omega
  change (W0.alloc (.cells #[.int .i64 x.kind, .int .i64 x.op, .string x.text, .slice ma x.mat.length mc, .int .i64 x.width, .int .i64 x.back, .int .i64 x.group, .slice na x.names.length nc, .bool x.bool, .int .i64 x.parts] 37)).grownBy (w2.alloc (.cells #[.int .i64 x.kind, .int .i64 x.op, .string x.text, .slice ma x.mat.length mc, .int .i64 x.width, .int .i64 x.back, .int .i64 x.group, .slice na x.names.length nc, .bool x.bool, .int .i64 x.parts, .slice b9 (st.length - k) c9] 67)).drew.drew none at GA
  change (w2.alloc (.cells #[.int .i64 x.kind, .int .i64 x.op, .string x.text, .slice ma x.mat.length mc, .int .i64 x.width, .int .i64 x.back, .int .i64 x.group, .slice na x.names.length nc, .bool x.bool, .int .i64 x.parts, .slice b9 (st.length - k) c9] 67)).drew.drew.heap[w2.heap.size]? = _ at HWB
  change w2.heap.size < (w2.alloc (.cells #[.int .i64 x.kind, .int .i64 x.op, .string x.text, .slice ma x.mat.length mc, .int .i64 x.width, .int .i64 x.back, .int .i64 x.group, .slice na x.names.length nc, .bool x.bool, .int .i64 x.parts, .slice b9 (st.length - k) c9] 67)).drew.drew.heap.size at HZ2
  generalize hW4 : (w2.alloc (.cells #[.int .i64 x.kind, .int .i64 x.op, .string x.text, .slice ma x.mat.length mc, .int .i64 x.width, .int .i64 x.back, .int .i64 x.group, .slice na x.names.length nc, .bool x.bool, .int .i64 x.parts, .slice b9 (st.length - k) c9] 67)).drew.drew = W4 at *
  clear hW4
  have HWB := hid HWB
  have HZ2 := hid HZ2
  have hpsl : (st.drop k).length = st.length - k := by rw [List.length_drop]
  have HPL := hid hpsl
  have HPS : Hid (∀ W, (W0.alloc (.cells #[.int .i64 x.kind, .int .i64 x.op, .string x.text, .slice ma x.mat.length mc, .int .i64 x.width, .int .i64 x.back, .int .i64 x.group, .slice na x.names.length nc, .bool x.bool, .int .i64 x.parts] 37)).grownBy W none → SRd numE W b9 (st.drop k)) := fun W hg => hsr W st (HST.out W hg).rd rfl
  have HWA : Hid (∀ W, Calls Tryz.prog 32 #[.agg #[.int .i64 x.kind, .int .i64 x.op, .string x.text, .slice ma x.mat.length mc, .int .i64 x.width, .int .i64 x.back, .int .i64 x.group, .slice na x.names.length nc, .bool x.bool, .int .i64 x.parts, .slice b9 (st.length - k) c9]] W fun e w' => e = .returned (.func (.func (wantFn x)) #[.agg #[.int .i64 x.kind, .int .i64 x.op, .string x.text, .slice ma x.mat.length mc, .int .i64 x.width, .int .i64 x.back, .int .i64 x.group, .slice na x.names.length nc, .bool x.bool, .int .i64 x.parts, .slice b9 (st.length - k) c9]] #[]) ∧ W.grownBy w' none) := fun W => f_wants x (ma, x.mat.length, mc) (na, x.names.length, nc) b9 (st.length - k) c9 W
  have HWN : Hid (∀ W, (W0.alloc (.cells #[.int .i64 x.kind, .int .i64 x.op, .string x.text, .slice ma x.mat.length mc, .int .i64 x.width, .int .i64 x.back, .int .i64 x.group, .slice na x.names.length nc, .bool x.bool, .int .i64 x.parts] 37)).grownBy W none → Calls Tryz.prog (wantFn x) #[.agg #[.int .i64 x.kind, .int .i64 x.op, .string x.text, .slice ma x.mat.length mc, .int .i64 x.width, .int .i64 x.back, .int .i64 x.group, .slice na x.names.length nc, .bool x.bool, .int .i64 x.parts, .slice b9 (st.length - k) c9]] W fun e w' => e = .returned (.bool (wantsB x (st.drop k))) ∧ W.grownBy w' none) := fun W hg => by
    have h9 := f_want x (ma, x.mat.length, mc) (na, x.names.length, nc) b9 c9 (st.drop k) W (HPS.out W hg) (by have := HB1.out.2; rw [HPL.out]; omega)
    rw [HPL.out] at h9
    exact h9
  have HRF : Hid (∀ W, Calls Tryz.prog 33 #[.agg #[.int .i64 x.kind, .int .i64 x.op, .string x.text, .slice ma x.mat.length mc, .int .i64 x.width, .int .i64 x.back, .int .i64 x.group, .slice na x.names.length nc, .bool x.bool, .int .i64 x.parts, .slice b9 (st.length - k) c9]] W fun e w' => e = .returned (.int .i64 (if x.kind = 6 then 192 else 191)) ∧ W.grownBy w' none) := fun W => f_refusal x (ma, x.mat.length, mc) (na, x.names.length, nc) b9 (st.length - k) c9 W
  have HKD : Hid (∀ W, (W0.alloc (.cells #[.int .i64 x.kind, .int .i64 x.op, .string x.text, .slice ma x.mat.length mc, .int .i64 x.width, .int .i64 x.back, .int .i64 x.group, .slice na x.names.length nc, .bool x.bool, .int .i64 x.parts] 37)).grownBy W none → Calls Tryz.prog 34 #[.agg #[.int .i64 x.kind, .int .i64 x.op, .string x.text, .slice ma x.mat.length mc, .int .i64 x.width, .int .i64 x.back, .int .i64 x.group, .slice na x.names.length nc, .bool x.bool, .int .i64 x.parts, .slice b9 (st.length - k) c9]] W fun e w' => e = .returned (.int .i64 (kindT x (st.drop k))) ∧ W.grownBy w' none) := fun W hg => by
    have h9 := f_kind x (ma, x.mat.length, mc) (na, x.names.length, nc) b9 c9 (st.drop k) W (HPS.out W hg) (by have := HB1.out.2; rw [HPL.out]; omega)
    rw [HPL.out] at h9
    exact h9
  have HE : Hid (∀ (caps : Array Value) (w : World), (callFunc (wantFn x) caps).run Tryz.prog w = .ok (.enter (wantFn x) caps) w) := fun caps w => want_ent x caps w
  have HBT : Hid (belowT st x = k) := by
    show st.length - x.parts.toNat = k
    omega
  clear hsl hsr hpsl
  obtain ⟨wb, hwb⟩ : ∃ wb, wantsB x (st.drop k) = wb := ⟨_, rfl⟩
  rw [hwb] at HWN
  have HWX := hid hwb
  clear hwb
  obtain ⟨e0, e1, e2, e3, e4, e5, e6, e7, e8, e9, e10⟩ := wx_cells HWB.out
  go_wp2_with fail
  refine (HWA.out _).mono ?_
  rintro e w5 ⟨rfl, hg⟩
  have GA5 := GA.trans hg
  have HWB5 := hid ((hg.block _ HZ2.out (by simp)).trans HWB.out)
  have HZ5 : Hid (w2.heap.size < w5.heap.size) := Nat.lt_of_lt_of_le HZ2.out hg.size
  clear hg
  clear e0 e1 e2 e3 e4 e5 e6 e7 e8 e9 e10
  have he := HE.out
  go_wp2_with fail
  clear he
  refine (HWN.out _ GA5).mono ?_
  rintro e w6 ⟨rfl, hg⟩
  have GA6 := GA5.trans hg
  have HWB6 := hid ((hg.block _ HZ5.out (by simp)).trans HWB5.out)
  have HZ6 : Hid (w2.heap.size < w6.heap.size) := Nat.lt_of_lt_of_le HZ5.out hg.size
  clear hg
  obtain ⟨e0, e1, e2, e3, e4, e5, e6, e7, e8, e9, e10⟩ := wx_cells HWB6.out
  cases wb with
  | false =>
    have HC : Hid (codeT st x = (if x.kind = 6 then 192 else 191)) := by
      show _ = _
      unfold codeT
      rw [if_neg HFP.out, if_neg (by rw [HM.out]; decide), HBT.out, HWX.out, if_neg (by decide)]
    obtain ⟨rc, hrc⟩ : ∃ rc : Int, (if x.kind = 6 then (192 : Int) else 191) = rc := ⟨_, rfl⟩
    have HR0 : Hid (¬ rc = 0) := by show ¬ _; rw [← hrc]; split <;> decide
    rw [hrc] at HRF HC
    clear hrc
    go_wp2_with fail
    refine (HRF.out _).mono ?_
    rintro e w7 ⟨rfl, hg⟩
    have GA7 := GA6.trans hg
    clear hg
    clear e0 e1 e2 e3 e4 e5 e6 e7 e8 e9 e10
    go_wp2
    go_ret
    unfold TkQ
    rw [HC.out, if_neg HR0.out]
    exact ⟨rfl, a, c, HST.out _ GA7, Fr.of (G0.out.trans GA7)⟩
  | true =>
    have HC : Hid (codeT st x = 0) := by
      show _ = _
      unfold codeT
      rw [if_neg HFP.out, if_neg (by rw [HM.out]; decide), HBT.out, HWX.out, if_pos rfl]
    have HN : Hid (nextT st x = st.take k ++ [kindT x (st.drop k)]) := by show _ = _; unfold nextT; rw [HBT.out]
    have hto := parts_to a st.length c k (by omega) HLE.out
    clear e0 e1 e2 e3 e4 e5 e6 e7 e8 e9 e10
    go_upto_region 10 with fail
    have GA7 := gb_drew GA6
    have HWB7 : Hid (w6.drew.heap[w2.heap.size]? = _) := HWB6.out
    generalize kindT x (st.drop k) = kd at *
    refine wp_region_held_drew (S := fun V => True) (by kernel_rfl) trivial (fun hHeld => ?_)
    generalize hW7 : w6.drew = W7 at *
    have HZ7 : Hid (w2.heap.size < W7.heap.size) := by
      show _ < _
      rw [← hW7]
      exact HZ6.out
    clear hW7
    refine wpAnyH_take (i := 0) (v := .pointer (some ⟨p, 0, none⟩)) rfl (by kernel_rfl) (by kernel_rfl) (by kernel_rfl) (fun _ _ _ h => h) (Or.inl ⟨by kernel_rfl, fun w hSw => ?_⟩) (by assumption) ?_
    · go_simp
    (try simp (maxSteps := 10000000) only [Act.put, List.getElem_toArray, List.getElem_cons_succ, List.getElem_cons_zero]); (try simp (maxSteps := 10000000) only [List.setIfInBounds_toArray]); (try simp (maxSteps := 10000000) only [List.set_cons_succ]); (try simp (maxSteps := 10000000) only [List.set_cons_zero])
    refine wpAnyH_take (i := 1) (v := .pointer (some ⟨p, 0, none⟩)) rfl (by kernel_rfl) (by kernel_rfl) (by kernel_rfl) (fun _ _ _ h => h) (Or.inl ⟨by kernel_rfl, fun w hSw => ?_⟩) (by assumption) ?_
    · go_simp
    (try simp (maxSteps := 10000000) only [Act.put, List.getElem_toArray, List.getElem_cons_succ, List.getElem_cons_zero]); (try simp (maxSteps := 10000000) only [List.setIfInBounds_toArray]); (try simp (maxSteps := 10000000) only [List.set_cons_succ]); (try simp (maxSteps := 10000000) only [List.set_cons_zero])
    refine wpAnyH_take (i := 2) (v := .pointer (some ⟨p, 0, none⟩)) rfl (by kernel_rfl) (by kernel_rfl) (by kernel_rfl) (fun _ _ _ h => h) (Or.inl ⟨by kernel_rfl, fun w hSw => ?_⟩) (by assumption) ?_
    · go_simp
    (try simp (maxSteps := 10000000) only [Act.put, List.getElem_toArray, List.getElem_cons_succ, List.getElem_cons_zero]); (try simp (maxSteps := 10000000) only [List.setIfInBounds_toArray]); (try simp (maxSteps := 10000000) only [List.set_cons_succ]); (try simp (maxSteps := 10000000) only [List.set_cons_zero])
    refine wpAnyH_take (i := 4) (v := .int .i64 (k : Int)) rfl (by kernel_rfl) (by kernel_rfl) (by kernel_rfl) (fun _ _ _ h => h) (Or.inl ⟨by kernel_rfl, fun w hSw => ?_⟩) (by assumption) ?_
    · go_simp
    (try simp (maxSteps := 10000000) only [Act.put, List.getElem_toArray, List.getElem_cons_succ, List.getElem_cons_zero]); (try simp (maxSteps := 10000000) only [List.setIfInBounds_toArray]); (try simp (maxSteps := 10000000) only [List.set_cons_succ]); (try simp (maxSteps := 10000000) only [List.set_cons_zero])
    refine wpAnyH_ready (rs := [3, 6]) (by kernel_rfl) (by simp) (AllReadyH.cons (i := 3) rfl (fun K9 hK => ?_) (AllReadyH.cons (i := 6) rfl (fun K9 hK => ?_) AllReadyH.nil))
    · have x9 := (HST.out _ GA7).cell
      go_simp
      refine hK.out _ _ trivial (fun hHeld => ?_)
      clear hK K9 hHeld
      (try simp (maxSteps := 10000000) only [Act.put, List.getElem_toArray, List.getElem_cons_succ, List.getElem_cons_zero]); (try simp (maxSteps := 10000000) only [List.setIfInBounds_toArray]); (try simp (maxSteps := 10000000) only [List.set_cons_succ]); (try simp (maxSteps := 10000000) only [List.set_cons_zero])
      refine wpAnyH_take (i := 5) (v := .slice a k c) rfl (by kernel_rfl) (by kernel_rfl) (by kernel_rfl) (fun _ _ _ h => h) (Or.inl ⟨by kernel_rfl, fun w hSw => ?_⟩) (by assumption) ?_
      · go_simp
      (try simp (maxSteps := 10000000) only [Act.put, List.getElem_toArray, List.getElem_cons_succ, List.getElem_cons_zero]); (try simp (maxSteps := 10000000) only [List.setIfInBounds_toArray]); (try simp (maxSteps := 10000000) only [List.set_cons_succ]); (try simp (maxSteps := 10000000) only [List.set_cons_zero])
      refine wpAnyH_ready (rs := [6]) (by kernel_rfl) (by simp) (AllReadyH.cons (i := 6) rfl (fun K9 hK => ?_) AllReadyH.nil)
      obtain ⟨e0, e1, e2, e3, e4, e5, e6, e7, e8, e9, e10⟩ := wx_cells HWB7.out
      go_simp
      clear e0 e1 e2 e3 e4 e5 e6 e7 e8 e9 e10
      refine hK.out _ _ trivial (fun hHeld => ?_)
      clear hK K9 hHeld
      (try simp (maxSteps := 10000000) only [Act.put, List.getElem_toArray, List.getElem_cons_succ, List.getElem_cons_zero]); (try simp (maxSteps := 10000000) only [List.setIfInBounds_toArray]); (try simp (maxSteps := 10000000) only [List.set_cons_succ]); (try simp (maxSteps := 10000000) only [List.set_cons_zero])
      refine wpAnyH_ready (rs := [7]) (by kernel_rfl) (by simp) (AllReadyH.cons (i := 7) rfl (fun K9 hK => ?_) AllReadyH.nil)
      go_simp
      refine (HKD.out _ GA7).mono ?_
      rintro e WX ⟨rfl, hg⟩
      have GX := GA7.trans hg
      clear hg
      refine hK.out _ _ trivial (fun hHeld => ?_)
      clear hK K9 hHeld
      (try simp (maxSteps := 10000000) only [Act.put, List.getElem_toArray, List.getElem_cons_succ, List.getElem_cons_zero]); (try simp (maxSteps := 10000000) only [List.setIfInBounds_toArray]); (try simp (maxSteps := 10000000) only [List.set_cons_succ]); (try simp (maxSteps := 10000000) only [List.set_cons_zero])
      refine wpAnyH_take (i := 8) (v := .agg #[.int .i64 kd]) rfl (by kernel_rfl) (by kernel_rfl) (by kernel_rfl) (fun _ _ _ h => h) (Or.inl ⟨by kernel_rfl, fun w hSw => ?_⟩) (by assumption) ?_
      · go_simp
      (try simp (maxSteps := 10000000) only [Act.put, List.getElem_toArray, List.getElem_cons_succ, List.getElem_cons_zero]); (try simp (maxSteps := 10000000) only [List.setIfInBounds_toArray]); (try simp (maxSteps := 10000000) only [List.set_cons_succ]); (try simp (maxSteps := 10000000) only [List.set_cons_zero])
      refine wpAnyH_ready (rs := [9]) (by kernel_rfl) (by simp) (AllReadyH.cons (i := 9) rfl (fun K9 hK => ?_) AllReadyH.nil)
      go_simp
      refine hK.out _ _ trivial (fun hHeld => ?_)
      clear hK K9 hHeld
      (try simp (maxSteps := 10000000) only [Act.put, List.getElem_toArray, List.getElem_cons_succ, List.getElem_cons_zero]); (try simp (maxSteps := 10000000) only [List.setIfInBounds_toArray]); (try simp (maxSteps := 10000000) only [List.set_cons_succ]); (try simp (maxSteps := 10000000) only [List.set_cons_zero])
      have HOW : Hid (SOwn numE 50 (WX.alloc (.cells #[.int .i64 kd] 50)) (p + 1) (.slice a k c) k (st.take k)) := sown_take (HST.out _ (GX.trans (World.grownBy_alloc _ _ none))).own k (by omega)
      have HIL : Hid (SRd numE (WX.alloc (.cells #[.int .i64 kd] 50)) (some ⟨WX.heap.size, 0, none⟩) [kd]) := lit_rd numE WX 50 [kd]
      have HSA := hid (HST.out _ (GX.trans (World.grownBy_alloc WX (.cells #[.int .i64 kd] 50) none)))
      have HBB : p + 1 ≤ (WX.alloc (.cells #[.int .i64 kd] 50)).heap.size := HSA.out.lt
      refine wpAnyH_ready (rs := [10]) (by kernel_rfl) (by simp) (AllReadyH.cons (i := 10) rfl (fun K9 hK => ?_) AllReadyH.nil)
      refine step_append_e partT rfl (.tmp 50) (.tmp 54) rfl (p + 1) (.slice a k c) k (st.take k) (by simp [Act.eval]) HOW.out ⟨WX.heap.size, 0, none⟩ [kd] 1 1 (by simp [Act.eval]) rfl HIL.out (by omega) (by omega) (by unfold maxLen; omega) HBB ?_
      intro g3 c3 w8 ho3 hg3 hgg
      obtain ⟨y1, y2, y3, y4⟩ := take_end HSA.out (by omega) ho3 hg3 hgg
      have HY3 := hid y3
      have HY4 := hid y4
      clear ho3 hg3 hgg y3 y4
      refine hK.out _ _ trivial (fun hHeld => ?_)
      clear hK K9 hHeld
      (try simp (maxSteps := 10000000) only [Act.put, List.getElem_toArray, List.getElem_cons_succ, List.getElem_cons_zero]); (try simp (maxSteps := 10000000) only [List.setIfInBounds_toArray]); (try simp (maxSteps := 10000000) only [List.set_cons_succ]); (try simp (maxSteps := 10000000) only [List.set_cons_zero])
      refine wpAnyH_take (i := 11) (v := .pointer (some ⟨p, 0, none⟩)) rfl (by kernel_rfl) (by kernel_rfl) (by kernel_rfl) (fun _ _ _ h => h) (Or.inl ⟨by kernel_rfl, fun w hSw => ?_⟩) (by assumption) ?_
      · go_simp
      (try simp (maxSteps := 10000000) only [Act.put, List.getElem_toArray, List.getElem_cons_succ, List.getElem_cons_zero]); (try simp (maxSteps := 10000000) only [List.setIfInBounds_toArray]); (try simp (maxSteps := 10000000) only [List.set_cons_succ]); (try simp (maxSteps := 10000000) only [List.set_cons_zero])
      refine wpAnyH_ready (rs := [12]) (by kernel_rfl) (by simp) (AllReadyH.cons (i := 12) rfl (fun K9 hK => ?_) AllReadyH.nil)
      go_simp
      refine hK.out _ _ trivial (fun hHeld => ?_)
      clear hK K9 hHeld
      (try simp (maxSteps := 10000000) only [Act.put, List.getElem_toArray, List.getElem_cons_succ, List.getElem_cons_zero]); (try simp (maxSteps := 10000000) only [List.setIfInBounds_toArray]); (try simp (maxSteps := 10000000) only [List.set_cons_succ]); (try simp (maxSteps := 10000000) only [List.set_cons_zero])
      refine wpAnyH_done (by kernel_rfl) ?_ _
      go_wp2
      go_ret
      unfold TkQ
      rw [HC.out, if_pos rfl, HN.out]
      exact ⟨rfl, _, _, HY3.out, (Fr.of ((G0.out.trans GX).trans (World.grownBy_alloc _ _ none))).trans HY4.out (fun _ _ e => e)⟩
    · obtain ⟨e0, e1, e2, e3, e4, e5, e6, e7, e8, e9, e10⟩ := wx_cells HWB7.out
      go_simp
      clear e0 e1 e2 e3 e4 e5 e6 e7 e8 e9 e10
      refine hK.out _ _ trivial (fun hHeld => ?_)
      clear hK K9 hHeld
      (try simp (maxSteps := 10000000) only [Act.put, List.getElem_toArray, List.getElem_cons_succ, List.getElem_cons_zero]); (try simp (maxSteps := 10000000) only [List.setIfInBounds_toArray]); (try simp (maxSteps := 10000000) only [List.set_cons_succ]); (try simp (maxSteps := 10000000) only [List.set_cons_zero])
      refine wpAnyH_ready (rs := [3, 7]) (by kernel_rfl) (by simp) (AllReadyH.cons (i := 3) rfl (fun K9 hK => ?_) (AllReadyH.cons (i := 7) rfl (fun K9 hK => ?_) AllReadyH.nil))
      · have x9 := (HST.out _ GA7).cell
        go_simp
        refine hK.out _ _ trivial (fun hHeld => ?_)
        clear hK K9 hHeld
        (try simp (maxSteps := 10000000) only [Act.put, List.getElem_toArray, List.getElem_cons_succ, List.getElem_cons_zero]); (try simp (maxSteps := 10000000) only [List.setIfInBounds_toArray]); (try simp (maxSteps := 10000000) only [List.set_cons_succ]); (try simp (maxSteps := 10000000) only [List.set_cons_zero])
        refine wpAnyH_take (i := 5) (v := .slice a k c) rfl (by kernel_rfl) (by kernel_rfl) (by kernel_rfl) (fun _ _ _ h => h) (Or.inl ⟨by kernel_rfl, fun w hSw => ?_⟩) (by assumption) ?_
        · go_simp
        (try simp (maxSteps := 10000000) only [Act.put, List.getElem_toArray, List.getElem_cons_succ, List.getElem_cons_zero]); (try simp (maxSteps := 10000000) only [List.setIfInBounds_toArray]); (try simp (maxSteps := 10000000) only [List.set_cons_succ]); (try simp (maxSteps := 10000000) only [List.set_cons_zero])
        refine wpAnyH_ready (rs := [7]) (by kernel_rfl) (by simp) (AllReadyH.cons (i := 7) rfl (fun K9 hK => ?_) AllReadyH.nil)
        go_simp
        refine (HKD.out _ GA7).mono ?_
        rintro e WX ⟨rfl, hg⟩
        have GX := GA7.trans hg
        clear hg
        refine hK.out _ _ trivial (fun hHeld => ?_)
        clear hK K9 hHeld
        (try simp (maxSteps := 10000000) only [Act.put, List.getElem_toArray, List.getElem_cons_succ, List.getElem_cons_zero]); (try simp (maxSteps := 10000000) only [List.setIfInBounds_toArray]); (try simp (maxSteps := 10000000) only [List.set_cons_succ]); (try simp (maxSteps := 10000000) only [List.set_cons_zero])
        refine wpAnyH_take (i := 8) (v := .agg #[.int .i64 kd]) rfl (by kernel_rfl) (by kernel_rfl) (by kernel_rfl) (fun _ _ _ h => h) (Or.inl ⟨by kernel_rfl, fun w hSw => ?_⟩) (by assumption) ?_
        · go_simp
        (try simp (maxSteps := 10000000) only [Act.put, List.getElem_toArray, List.getElem_cons_succ, List.getElem_cons_zero]); (try simp (maxSteps := 10000000) only [List.setIfInBounds_toArray]); (try simp (maxSteps := 10000000) only [List.set_cons_succ]); (try simp (maxSteps := 10000000) only [List.set_cons_zero])
        refine wpAnyH_ready (rs := [9]) (by kernel_rfl) (by simp) (AllReadyH.cons (i := 9) rfl (fun K9 hK => ?_) AllReadyH.nil)
        go_simp
        refine hK.out _ _ trivial (fun hHeld => ?_)
        clear hK K9 hHeld
        (try simp (maxSteps := 10000000) only [Act.put, List.getElem_toArray, List.getElem_cons_succ, List.getElem_cons_zero]); (try simp (maxSteps := 10000000) only [List.setIfInBounds_toArray]); (try simp (maxSteps := 10000000) only [List.set_cons_succ]); (try simp (maxSteps := 10000000) only [List.set_cons_zero])
        have HOW : Hid (SOwn numE 50 (WX.alloc (.cells #[.int .i64 kd] 50)) (p + 1) (.slice a k c) k (st.take k)) := sown_take (HST.out _ (GX.trans (World.grownBy_alloc _ _ none))).own k (by omega)
        have HIL : Hid (SRd numE (WX.alloc (.cells #[.int .i64 kd] 50)) (some ⟨WX.heap.size, 0, none⟩) [kd]) := lit_rd numE WX 50 [kd]
        have HSA := hid (HST.out _ (GX.trans (World.grownBy_alloc WX (.cells #[.int .i64 kd] 50) none)))
        have HBB : p + 1 ≤ (WX.alloc (.cells #[.int .i64 kd] 50)).heap.size := HSA.out.lt
        refine wpAnyH_ready (rs := [10]) (by kernel_rfl) (by simp) (AllReadyH.cons (i := 10) rfl (fun K9 hK => ?_) AllReadyH.nil)
        refine step_append_e partT rfl (.tmp 50) (.tmp 54) rfl (p + 1) (.slice a k c) k (st.take k) (by simp [Act.eval]) HOW.out ⟨WX.heap.size, 0, none⟩ [kd] 1 1 (by simp [Act.eval]) rfl HIL.out (by omega) (by omega) (by unfold maxLen; omega) HBB ?_
        intro g3 c3 w8 ho3 hg3 hgg
        obtain ⟨y1, y2, y3, y4⟩ := take_end HSA.out (by omega) ho3 hg3 hgg
        have HY3 := hid y3
        have HY4 := hid y4
        clear ho3 hg3 hgg y3 y4
        refine hK.out _ _ trivial (fun hHeld => ?_)
        clear hK K9 hHeld
        (try simp (maxSteps := 10000000) only [Act.put, List.getElem_toArray, List.getElem_cons_succ, List.getElem_cons_zero]); (try simp (maxSteps := 10000000) only [List.setIfInBounds_toArray]); (try simp (maxSteps := 10000000) only [List.set_cons_succ]); (try simp (maxSteps := 10000000) only [List.set_cons_zero])
        refine wpAnyH_take (i := 11) (v := .pointer (some ⟨p, 0, none⟩)) rfl (by kernel_rfl) (by kernel_rfl) (by kernel_rfl) (fun _ _ _ h => h) (Or.inl ⟨by kernel_rfl, fun w hSw => ?_⟩) (by assumption) ?_
        · go_simp
        (try simp (maxSteps := 10000000) only [Act.put, List.getElem_toArray, List.getElem_cons_succ, List.getElem_cons_zero]); (try simp (maxSteps := 10000000) only [List.setIfInBounds_toArray]); (try simp (maxSteps := 10000000) only [List.set_cons_succ]); (try simp (maxSteps := 10000000) only [List.set_cons_zero])
        refine wpAnyH_ready (rs := [12]) (by kernel_rfl) (by simp) (AllReadyH.cons (i := 12) rfl (fun K9 hK => ?_) AllReadyH.nil)
        go_simp
        refine hK.out _ _ trivial (fun hHeld => ?_)
        clear hK K9 hHeld
        (try simp (maxSteps := 10000000) only [Act.put, List.getElem_toArray, List.getElem_cons_succ, List.getElem_cons_zero]); (try simp (maxSteps := 10000000) only [List.setIfInBounds_toArray]); (try simp (maxSteps := 10000000) only [List.set_cons_succ]); (try simp (maxSteps := 10000000) only [List.set_cons_zero])
        refine wpAnyH_done (by kernel_rfl) ?_ _
        go_wp2
        go_ret
        unfold TkQ
        rw [HC.out, if_pos rfl, HN.out]
        exact ⟨rfl, _, _, HY3.out, (Fr.of ((G0.out.trans GX).trans (World.grownBy_alloc _ _ none))).trans HY4.out (fun _ _ e => e)⟩
      · go_simp
        refine (HKD.out _ GA7).mono ?_
        rintro e WX ⟨rfl, hg⟩
        have GX := GA7.trans hg
        clear hg
        refine hK.out _ _ trivial (fun hHeld => ?_)
        clear hK K9 hHeld
        (try simp (maxSteps := 10000000) only [Act.put, List.getElem_toArray, List.getElem_cons_succ, List.getElem_cons_zero]); (try simp (maxSteps := 10000000) only [List.setIfInBounds_toArray]); (try simp (maxSteps := 10000000) only [List.set_cons_succ]); (try simp (maxSteps := 10000000) only [List.set_cons_zero])
        refine wpAnyH_take (i := 8) (v := .agg #[.int .i64 kd]) rfl (by kernel_rfl) (by kernel_rfl) (by kernel_rfl) (fun _ _ _ h => h) (Or.inl ⟨by kernel_rfl, fun w hSw => ?_⟩) (by assumption) ?_
        · go_simp
        (try simp (maxSteps := 10000000) only [Act.put, List.getElem_toArray, List.getElem_cons_succ, List.getElem_cons_zero]); (try simp (maxSteps := 10000000) only [List.setIfInBounds_toArray]); (try simp (maxSteps := 10000000) only [List.set_cons_succ]); (try simp (maxSteps := 10000000) only [List.set_cons_zero])
        refine wpAnyH_ready (rs := [3, 9]) (by kernel_rfl) (by simp) (AllReadyH.cons (i := 3) rfl (fun K9 hK => ?_) (AllReadyH.cons (i := 9) rfl (fun K9 hK => ?_) AllReadyH.nil))
        · have x9 := (HST.out _ GX).cell
          go_simp
          refine hK.out _ _ trivial (fun hHeld => ?_)
          clear hK K9 hHeld
          (try simp (maxSteps := 10000000) only [Act.put, List.getElem_toArray, List.getElem_cons_succ, List.getElem_cons_zero]); (try simp (maxSteps := 10000000) only [List.setIfInBounds_toArray]); (try simp (maxSteps := 10000000) only [List.set_cons_succ]); (try simp (maxSteps := 10000000) only [List.set_cons_zero])
          refine wpAnyH_take (i := 5) (v := .slice a k c) rfl (by kernel_rfl) (by kernel_rfl) (by kernel_rfl) (fun _ _ _ h => h) (Or.inl ⟨by kernel_rfl, fun w hSw => ?_⟩) (by assumption) ?_
          · go_simp
          (try simp (maxSteps := 10000000) only [Act.put, List.getElem_toArray, List.getElem_cons_succ, List.getElem_cons_zero]); (try simp (maxSteps := 10000000) only [List.setIfInBounds_toArray]); (try simp (maxSteps := 10000000) only [List.set_cons_succ]); (try simp (maxSteps := 10000000) only [List.set_cons_zero])
          refine wpAnyH_ready (rs := [9]) (by kernel_rfl) (by simp) (AllReadyH.cons (i := 9) rfl (fun K9 hK => ?_) AllReadyH.nil)
          go_simp
          refine hK.out _ _ trivial (fun hHeld => ?_)
          clear hK K9 hHeld
          (try simp (maxSteps := 10000000) only [Act.put, List.getElem_toArray, List.getElem_cons_succ, List.getElem_cons_zero]); (try simp (maxSteps := 10000000) only [List.setIfInBounds_toArray]); (try simp (maxSteps := 10000000) only [List.set_cons_succ]); (try simp (maxSteps := 10000000) only [List.set_cons_zero])
          have HOW : Hid (SOwn numE 50 (WX.alloc (.cells #[.int .i64 kd] 50)) (p + 1) (.slice a k c) k (st.take k)) := sown_take (HST.out _ (GX.trans (World.grownBy_alloc _ _ none))).own k (by omega)
          have HIL : Hid (SRd numE (WX.alloc (.cells #[.int .i64 kd] 50)) (some ⟨WX.heap.size, 0, none⟩) [kd]) := lit_rd numE WX 50 [kd]
          have HSA := hid (HST.out _ (GX.trans (World.grownBy_alloc WX (.cells #[.int .i64 kd] 50) none)))
          have HBB : p + 1 ≤ (WX.alloc (.cells #[.int .i64 kd] 50)).heap.size := HSA.out.lt
          refine wpAnyH_ready (rs := [10]) (by kernel_rfl) (by simp) (AllReadyH.cons (i := 10) rfl (fun K9 hK => ?_) AllReadyH.nil)
          refine step_append_e partT rfl (.tmp 50) (.tmp 54) rfl (p + 1) (.slice a k c) k (st.take k) (by simp [Act.eval]) HOW.out ⟨WX.heap.size, 0, none⟩ [kd] 1 1 (by simp [Act.eval]) rfl HIL.out (by omega) (by omega) (by unfold maxLen; omega) HBB ?_
          intro g3 c3 w8 ho3 hg3 hgg
          obtain ⟨y1, y2, y3, y4⟩ := take_end HSA.out (by omega) ho3 hg3 hgg
          have HY3 := hid y3
          have HY4 := hid y4
          clear ho3 hg3 hgg y3 y4
          refine hK.out _ _ trivial (fun hHeld => ?_)
          clear hK K9 hHeld
          (try simp (maxSteps := 10000000) only [Act.put, List.getElem_toArray, List.getElem_cons_succ, List.getElem_cons_zero]); (try simp (maxSteps := 10000000) only [List.setIfInBounds_toArray]); (try simp (maxSteps := 10000000) only [List.set_cons_succ]); (try simp (maxSteps := 10000000) only [List.set_cons_zero])
          refine wpAnyH_take (i := 11) (v := .pointer (some ⟨p, 0, none⟩)) rfl (by kernel_rfl) (by kernel_rfl) (by kernel_rfl) (fun _ _ _ h => h) (Or.inl ⟨by kernel_rfl, fun w hSw => ?_⟩) (by assumption) ?_
          · go_simp
          (try simp (maxSteps := 10000000) only [Act.put, List.getElem_toArray, List.getElem_cons_succ, List.getElem_cons_zero]); (try simp (maxSteps := 10000000) only [List.setIfInBounds_toArray]); (try simp (maxSteps := 10000000) only [List.set_cons_succ]); (try simp (maxSteps := 10000000) only [List.set_cons_zero])
          refine wpAnyH_ready (rs := [12]) (by kernel_rfl) (by simp) (AllReadyH.cons (i := 12) rfl (fun K9 hK => ?_) AllReadyH.nil)
          go_simp
          refine hK.out _ _ trivial (fun hHeld => ?_)
          clear hK K9 hHeld
          (try simp (maxSteps := 10000000) only [Act.put, List.getElem_toArray, List.getElem_cons_succ, List.getElem_cons_zero]); (try simp (maxSteps := 10000000) only [List.setIfInBounds_toArray]); (try simp (maxSteps := 10000000) only [List.set_cons_succ]); (try simp (maxSteps := 10000000) only [List.set_cons_zero])
          refine wpAnyH_done (by kernel_rfl) ?_ _
          go_wp2
          go_ret
          unfold TkQ
          rw [HC.out, if_pos rfl, HN.out]
          exact ⟨rfl, _, _, HY3.out, (Fr.of ((G0.out.trans GX).trans (World.grownBy_alloc _ _ none))).trans HY4.out (fun _ _ e => e)⟩
        · go_simp
          refine hK.out _ _ trivial (fun hHeld => ?_)
          clear hK K9 hHeld
          (try simp (maxSteps := 10000000) only [Act.put, List.getElem_toArray, List.getElem_cons_succ, List.getElem_cons_zero]); (try simp (maxSteps := 10000000) only [List.setIfInBounds_toArray]); (try simp (maxSteps := 10000000) only [List.set_cons_succ]); (try simp (maxSteps := 10000000) only [List.set_cons_zero])
          refine wpAnyH_ready (rs := [3]) (by kernel_rfl) (by simp) (AllReadyH.cons (i := 3) rfl (fun K9 hK => ?_) AllReadyH.nil)
          have x9 := (HST.out _ (GX.trans (World.grownBy_alloc WX (.cells #[.int .i64 kd] 50) none))).cell
          go_simp
          refine hK.out _ _ trivial (fun hHeld => ?_)
          clear hK K9 hHeld
          (try simp (maxSteps := 10000000) only [Act.put, List.getElem_toArray, List.getElem_cons_succ, List.getElem_cons_zero]); (try simp (maxSteps := 10000000) only [List.setIfInBounds_toArray]); (try simp (maxSteps := 10000000) only [List.set_cons_succ]); (try simp (maxSteps := 10000000) only [List.set_cons_zero])
          refine wpAnyH_take (i := 5) (v := .slice a k c) rfl (by kernel_rfl) (by kernel_rfl) (by kernel_rfl) (fun _ _ _ h => h) (Or.inl ⟨by kernel_rfl, fun w hSw => ?_⟩) (by assumption) ?_
          · go_simp
          (try simp (maxSteps := 10000000) only [Act.put, List.getElem_toArray, List.getElem_cons_succ, List.getElem_cons_zero]); (try simp (maxSteps := 10000000) only [List.setIfInBounds_toArray]); (try simp (maxSteps := 10000000) only [List.set_cons_succ]); (try simp (maxSteps := 10000000) only [List.set_cons_zero])
          have HOW : Hid (SOwn numE 50 (WX.alloc (.cells #[.int .i64 kd] 50)) (p + 1) (.slice a k c) k (st.take k)) := sown_take (HST.out _ (GX.trans (World.grownBy_alloc _ _ none))).own k (by omega)
          have HIL : Hid (SRd numE (WX.alloc (.cells #[.int .i64 kd] 50)) (some ⟨WX.heap.size, 0, none⟩) [kd]) := lit_rd numE WX 50 [kd]
          have HSA := hid (HST.out _ (GX.trans (World.grownBy_alloc WX (.cells #[.int .i64 kd] 50) none)))
          have HBB : p + 1 ≤ (WX.alloc (.cells #[.int .i64 kd] 50)).heap.size := HSA.out.lt
          refine wpAnyH_ready (rs := [10]) (by kernel_rfl) (by simp) (AllReadyH.cons (i := 10) rfl (fun K9 hK => ?_) AllReadyH.nil)
          refine step_append_e partT rfl (.tmp 50) (.tmp 54) rfl (p + 1) (.slice a k c) k (st.take k) (by simp [Act.eval]) HOW.out ⟨WX.heap.size, 0, none⟩ [kd] 1 1 (by simp [Act.eval]) rfl HIL.out (by omega) (by omega) (by unfold maxLen; omega) HBB ?_
          intro g3 c3 w8 ho3 hg3 hgg
          obtain ⟨y1, y2, y3, y4⟩ := take_end HSA.out (by omega) ho3 hg3 hgg
          have HY3 := hid y3
          have HY4 := hid y4
          clear ho3 hg3 hgg y3 y4
          refine hK.out _ _ trivial (fun hHeld => ?_)
          clear hK K9 hHeld
          (try simp (maxSteps := 10000000) only [Act.put, List.getElem_toArray, List.getElem_cons_succ, List.getElem_cons_zero]); (try simp (maxSteps := 10000000) only [List.setIfInBounds_toArray]); (try simp (maxSteps := 10000000) only [List.set_cons_succ]); (try simp (maxSteps := 10000000) only [List.set_cons_zero])
          refine wpAnyH_take (i := 11) (v := .pointer (some ⟨p, 0, none⟩)) rfl (by kernel_rfl) (by kernel_rfl) (by kernel_rfl) (fun _ _ _ h => h) (Or.inl ⟨by kernel_rfl, fun w hSw => ?_⟩) (by assumption) ?_
          · go_simp
          (try simp (maxSteps := 10000000) only [Act.put, List.getElem_toArray, List.getElem_cons_succ, List.getElem_cons_zero]); (try simp (maxSteps := 10000000) only [List.setIfInBounds_toArray]); (try simp (maxSteps := 10000000) only [List.set_cons_succ]); (try simp (maxSteps := 10000000) only [List.set_cons_zero])
          refine wpAnyH_ready (rs := [12]) (by kernel_rfl) (by simp) (AllReadyH.cons (i := 12) rfl (fun K9 hK => ?_) AllReadyH.nil)
          go_simp
          refine hK.out _ _ trivial (fun hHeld => ?_)
          clear hK K9 hHeld
          (try simp (maxSteps := 10000000) only [Act.put, List.getElem_toArray, List.getElem_cons_succ, List.getElem_cons_zero]); (try simp (maxSteps := 10000000) only [List.setIfInBounds_toArray]); (try simp (maxSteps := 10000000) only [List.set_cons_succ]); (try simp (maxSteps := 10000000) only [List.set_cons_zero])
          refine wpAnyH_done (by kernel_rfl) ?_ _
          go_wp2
          go_ret
          unfold TkQ
          rw [HC.out, if_pos rfl, HN.out]
          exact ⟨rfl, _, _, HY3.out, (Fr.of ((G0.out.trans GX).trans (World.grownBy_alloc _ _ none))).trans HY4.out (fun _ _ e => e)⟩
end Go.Proofs.YthbodkgcbfplgaaGreat
