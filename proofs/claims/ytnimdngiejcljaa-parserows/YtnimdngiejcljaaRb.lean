/- ParseRows: the walk. -/
import Derived.Test.YtnimdngiejcljaaRa
namespace Go.Proofs.Ytnimdngiejcljaa
open Go.RowKit
set_option linter.unusedVariables false
set_option linter.unusedSimpArgs false
set_option maxRecDepth 20000

/-- What Parse answers where it answers nodes, as the laws' walks want it. -/
def NdOut (ns : List Nd) (n : Nat) (w : World) (e : Ending) (w' : World) : Prop := ∃ g c Q, e = .returned (.tuple #[.slice (some ⟨g, 0, none⟩) n c, .int .i64 0, .int .i64 0]) ∧ SRd ndE w' (some ⟨g, 0, none⟩) Q ∧ Q.map (·.1) = ns ∧ w.grownBy w' none
theorem parse_nodes {s : ByteArray} {ns : List Nd} {n : Nat} (h : parseR s = .ok ns) (hn : ns.length = n) (h0 : 0 < n) (w : World) : Calls Try.prog 8 #[.string s] w fun e w' => NdOut ns n w e w' := (f_parse s w).mono fun e w' h2 => by
  rw [h] at h2
  obtain ⟨v, Q, rfl, hnd, hq, hg⟩ := h2
  have hl : Q.length = n := by rw [← hn, ← hq, List.length_map]
  obtain ⟨g, c, rfl, hr⟩ := hnd.some (by omega)
  rw [hl]
  exact ⟨g, c, Q, rfl, hr, hq, hg⟩
theorem cell_lt' {w : World} {b j : Nat} {v : Value} (h : w.cell? ⟨b, j, none⟩ = some v) : b < w.heap.size := by
  by_cases hb : b < w.heap.size
  · exact hb
  · exfalso
    have : w.heap[b]? = none := Array.getElem?_eq_none (by omega)
    simp [World.cell?, this] at h
theorem two_boxes (w : World) (x y : Array Value) : ((w.alloc (.cells x 34)).alloc (.cells y 34)).drew.heap[w.heap.size]? = some (.cells x 34 (0, 0)) ∧ ((w.alloc (.cells x 34)).alloc (.cells y 34)).drew.heap[w.heap.size + 1]? = some (.cells y 34 (0, 0)) ∧ w.grownBy ((w.alloc (.cells x 34)).alloc (.cells y 34)).drew none := by
  have g1 := World.grownBy_alloc w (.cells x 34) none
  have g2 := World.grownBy_alloc (w.alloc (.cells x 34)) (.cells y 34) none
  have h2 := heap_alloc_new (w.alloc (.cells x 34)) (.cells y 34)
  rw [size_alloc] at h2
  exact ⟨(g2.block _ (by rw [size_alloc]; omega) (by simp)).trans (heap_alloc_new w _), h2, gb_drew (g1.trans g2)⟩
theorem cs_step {w : World} {A j : Nat} {u x : Value} (hj : j ≠ 1) (h : w.cell? ⟨A, 1, none⟩ = some x) : (w.setCell ⟨A, j, none⟩ u).cell? ⟨A, 1, none⟩ = some x := by
  rw [World.cell?_setCell_other (h := fun e => hj (by cases e; rfl))]
  exact h
theorem gb_step {v w : World} {A j : Nat} {u : Value} (h : v.grownBy w (some A)) : v.grownBy (w.setCell ⟨A, j, none⟩ u) (some A) := h.trans (gb_set rfl)
theorem ten_set (w : World) (A : Nat) (v0 v1 v2 v3 v4 v5 v6 v7 v8 v9 : Value) {u : Value} (h : w.cell? ⟨A, 1, none⟩ = some u) :
    ((((((((((w.setCell ⟨A, 0, none⟩ v0).setCell ⟨A, 1, none⟩ v1).setCell ⟨A, 2, none⟩ v2).setCell ⟨A, 3, none⟩ v3).setCell ⟨A, 4, none⟩ v4).setCell ⟨A, 5, none⟩ v5).setCell ⟨A, 6, none⟩ v6).setCell ⟨A, 7, none⟩ v7).setCell ⟨A, 8, none⟩ v8).setCell ⟨A, 9, none⟩ v9).cell? ⟨A, 1, none⟩ = some v1 ∧
    w.grownBy ((((((((((w.setCell ⟨A, 0, none⟩ v0).setCell ⟨A, 1, none⟩ v1).setCell ⟨A, 2, none⟩ v2).setCell ⟨A, 3, none⟩ v3).setCell ⟨A, 4, none⟩ v4).setCell ⟨A, 5, none⟩ v5).setCell ⟨A, 6, none⟩ v6).setCell ⟨A, 7, none⟩ v7).setCell ⟨A, 8, none⟩ v8).setCell ⟨A, 9, none⟩ v9) (some A) := by
  constructor
  · iterate 8 refine cs_step (by decide) ?_
    exact World.cell?_setCell_same _ _ _ (cs_step (j := 0) (by decide) h)
  · iterate 10 refine gb_step ?_
    exact World.grownBy.refl w _
theorem gb_past {w v x : World} {A : Nat} (h : w.grownBy v none) (hA : w.heap.size ≤ A) (g : v.grownBy x (some A)) : w.grownBy x none := ⟨g.os.trans h.os, g.tape.trans h.tape, g.output.trans h.output, Nat.le_trans h.size g.size, fun b hb _ => (g.block b (Nat.lt_of_lt_of_le hb h.size) (by intro e; cases e; omega)).trans (h.block b hb (by simp))⟩
set_option maxHeartbeats 8000000 in
theorem rows_walk (p q : Int) (w : World) : Calls Try.prog 6 #[.int .i64 p, .int .i64 q] w fun e w' => e = .returned (.bool true) ∧ w.grownBy w' none := by
  obtain ⟨i, hi, hir⟩ : ∃ k : Nat, k < 13 ∧ (bits .and .i64 p 9223372036854775807).tmod 13 = (k : Int) := low_rem p 13 (by decide)
  obtain ⟨k, hk, hkr⟩ : ∃ k : Nat, k < 13 ∧ (bits .and .i64 q 9223372036854775807).tmod 13 = (k : Int) := low_rem q 13 (by decide)
  obtain ⟨n0, n1, n2, n3, n4, hpa, hyes, hno⟩ := row_parse hi hk
  have HPA := hid hpa
  have HYES := hid hyes
  have HNO := hid hno
  have hzi := opI_le hi
  have hzk := opI_le hk
  have HLP := hid (r_low p)
  have HLQ := hid (r_low q)
  have hii : (i : Int) < 13 := by omega
  have hki : (k : Int) < 13 := by omega
  have hi0 : 0 ≤ (i : Int) := by omega
  have hk0 : 0 ≤ (k : Int) := by omega
  have hwi : IntKind.i64.wrap (i : Int) = (i : Int) := by rw [IntKind.wrap_i64]; omega
  have hwk : IntKind.i64.wrap (k : Int) = (k : Int) := by rw [IntKind.wrap_i64]; omega
  generalize bits .and .i64 p 9223372036854775807 = X at HLP hir
  generalize bits .and .i64 q 9223372036854775807 = Y at HLQ hkr
  clear hpa hyes hno
  go_enter Try.func6, Try.ntmps6
  go_wp2_with fail
  refine (HLP.out _).mono ?_
  rintro e w1 ⟨rfl, rfl⟩
  go_wp2_with fail
  refine (HLQ.out _).mono ?_
  rintro e w1 ⟨rfl, rfl⟩
  go_upto_region 2 with fail
  have G0 : Hid (w.grownBy w.drew none) := gb_drew (World.grownBy.refl w none)
  go_cut [7, 8, 9] from 18 (fun t7 t8 t9 wx => ∃ g c Q, t7 = .slice (some ⟨g, 0, none⟩) 5 c ∧ t8 = .int .i64 0 ∧ t9 = .int .i64 0 ∧ SRd ndE wx (some ⟨g, 0, none⟩) Q ∧ Hid (Q.map (·.1) = [n0, n1, n2, n3, n4]) ∧ w.grownBy wx none)
  case first =>
    have gd0 : w.grownBy w.drew none := G0.out
    refine wp_region_held_drew (S := fun V => w.grownBy V none) (by kernel_rfl) gd0 (fun hHeld => ?_)
    refine wpAnyH_take (i := 1) (v := .int .i64 (i : Int)) rfl (by kernel_rfl) (by kernel_rfl) (by kernel_rfl) (fun _ _ _ h => h) (Or.inl ⟨by rfl, fun w hSw => ?_⟩) (by assumption) ?_
    · go_simp
    (try simp (maxSteps := 10000000) only [Act.put]); (try simp (maxSteps := 10000000) only [List.setIfInBounds_toArray]); (try simp (maxSteps := 10000000) only [List.set_cons_succ]); (try simp (maxSteps := 10000000) only [List.set_cons_zero])
    refine wpAnyH_take (i := 7) (v := .int .i64 (k : Int)) rfl (by kernel_rfl) (by kernel_rfl) (by kernel_rfl) (fun _ _ _ h => h) (Or.inl ⟨by rfl, fun w hSw => ?_⟩) (by assumption) ?_
    · go_simp
    (try simp (maxSteps := 10000000) only [Act.put]); (try simp (maxSteps := 10000000) only [List.setIfInBounds_toArray]); (try simp (maxSteps := 10000000) only [List.set_cons_succ]); (try simp (maxSteps := 10000000) only [List.set_cons_zero])
    refine wpAnyH_ready (rs := [0]) (by kernel_rfl) (by simp) (AllReadyH.cons (i := 0) rfl (fun K9 hK => ?_) AllReadyH.nil)
    go_simp
    refine (r_ops _).mono ?_
    rintro e w1 ⟨rfl, hc1, g1⟩
    have s1 : w.grownBy w1 none := G0.out.trans g1
    have c5 : w1.cell? ⟨w.heap.size, i, none⟩ = some (.string (opI i)) := hc1 i hi
    clear g1 hc1
    refine hK.out _ _ s1 (fun hHeld => ?_)
    clear hK K9 hHeld
    (try simp (maxSteps := 10000000) only [Act.put]); (try simp (maxSteps := 10000000) only [List.setIfInBounds_toArray]); (try simp (maxSteps := 10000000) only [List.set_cons_succ]); (try simp (maxSteps := 10000000) only [List.set_cons_zero])
    refine wpAnyH_take (i := 2) (v := .pointer (some ⟨w.heap.size, i, none⟩)) rfl (by kernel_rfl) (by kernel_rfl) (by kernel_rfl) (fun _ _ _ h => h) (Or.inl ⟨by rfl, fun w hSw => ?_⟩) (by assumption) ?_
    · go_simp
    (try simp (maxSteps := 10000000) only [Act.put]); (try simp (maxSteps := 10000000) only [List.setIfInBounds_toArray]); (try simp (maxSteps := 10000000) only [List.set_cons_succ]); (try simp (maxSteps := 10000000) only [List.set_cons_zero])
    refine wpAnyH_ready (rs := [3, 6]) (by kernel_rfl) (by simp) (AllReadyH.cons (i := 3) rfl (fun K9 hK => ?_) (AllReadyH.cons (i := 6) rfl (fun K9 hK => ?_) AllReadyH.nil))
    · go_simp
      refine hK.out _ _ s1 (fun hHeld => ?_)
      clear hK K9 hHeld
      (try simp (maxSteps := 10000000) only [Act.put]); (try simp (maxSteps := 10000000) only [List.setIfInBounds_toArray]); (try simp (maxSteps := 10000000) only [List.set_cons_succ]); (try simp (maxSteps := 10000000) only [List.set_cons_zero])
      refine wpAnyH_take (i := 4) (v := .string (⟨#[97, 32]⟩ ++ opI i)) rfl (by kernel_rfl) (by kernel_rfl) (by kernel_rfl) (fun _ _ _ h => h) (Or.inl ⟨by rfl, fun w hSw => ?_⟩) (by assumption) ?_
      · go_simp; omega
      (try simp (maxSteps := 10000000) only [Act.put]); (try simp (maxSteps := 10000000) only [List.setIfInBounds_toArray]); (try simp (maxSteps := 10000000) only [List.set_cons_succ]); (try simp (maxSteps := 10000000) only [List.set_cons_zero])
      refine wpAnyH_take (i := 5) (v := .string (⟨#[97, 32]⟩ ++ opI i ++ ⟨#[32, 98, 32]⟩)) rfl (by kernel_rfl) (by kernel_rfl) (by kernel_rfl) (fun _ _ _ h => h) (Or.inl ⟨by rfl, fun w hSw => ?_⟩) (by assumption) ?_
      · go_simp; omega
      (try simp (maxSteps := 10000000) only [Act.put]); (try simp (maxSteps := 10000000) only [List.setIfInBounds_toArray]); (try simp (maxSteps := 10000000) only [List.set_cons_succ]); (try simp (maxSteps := 10000000) only [List.set_cons_zero])
      refine wpAnyH_ready (rs := [6]) (by kernel_rfl) (by simp) (AllReadyH.cons (i := 6) rfl (fun K9 hK => ?_) AllReadyH.nil)
      go_simp
      refine (r_ops _).mono ?_
      rintro e w2 ⟨rfl, hc2, g2⟩
      have s2 : w.grownBy w2 none := s1.trans g2
      have c6 : w2.cell? ⟨w.heap.size, i, none⟩ = some (.string (opI i)) := g2.cell c5 (by simp)
      have c7 : w2.cell? ⟨w1.heap.size, k, none⟩ = some (.string (opI k)) := hc2 k hk
      clear g2 hc2
      refine hK.out _ _ s2 (fun hHeld => ?_)
      clear hK K9 hHeld
      (try simp (maxSteps := 10000000) only [Act.put]); (try simp (maxSteps := 10000000) only [List.setIfInBounds_toArray]); (try simp (maxSteps := 10000000) only [List.set_cons_succ]); (try simp (maxSteps := 10000000) only [List.set_cons_zero])
      refine wpAnyH_take (i := 8) (v := .pointer (some ⟨w1.heap.size, k, none⟩)) rfl (by kernel_rfl) (by kernel_rfl) (by kernel_rfl) (fun _ _ _ h => h) (Or.inl ⟨by rfl, fun w hSw => ?_⟩) (by assumption) ?_
      · go_simp
      (try simp (maxSteps := 10000000) only [Act.put]); (try simp (maxSteps := 10000000) only [List.setIfInBounds_toArray]); (try simp (maxSteps := 10000000) only [List.set_cons_succ]); (try simp (maxSteps := 10000000) only [List.set_cons_zero])
      refine wpAnyH_ready (rs := [9]) (by kernel_rfl) (by simp) (AllReadyH.cons (i := 9) rfl (fun K9 hK => ?_) AllReadyH.nil)
      go_simp
      refine hK.out _ _ s2 (fun hHeld => ?_)
      clear hK K9 hHeld
      (try simp (maxSteps := 10000000) only [Act.put]); (try simp (maxSteps := 10000000) only [List.setIfInBounds_toArray]); (try simp (maxSteps := 10000000) only [List.set_cons_succ]); (try simp (maxSteps := 10000000) only [List.set_cons_zero])
      refine wpAnyH_take (i := 10) (v := .string (⟨#[97, 32]⟩ ++ opI i ++ ⟨#[32, 98, 32]⟩ ++ opI k)) rfl (by kernel_rfl) (by kernel_rfl) (by kernel_rfl) (fun _ _ _ h => h) (Or.inl ⟨by rfl, fun w hSw => ?_⟩) (by assumption) ?_
      · go_simp; omega
      (try simp (maxSteps := 10000000) only [Act.put]); (try simp (maxSteps := 10000000) only [List.setIfInBounds_toArray]); (try simp (maxSteps := 10000000) only [List.set_cons_succ]); (try simp (maxSteps := 10000000) only [List.set_cons_zero])
      refine wpAnyH_take (i := 11) (v := .string (rowS i k)) rfl (by kernel_rfl) (by kernel_rfl) (by kernel_rfl) (fun _ _ _ h => h) (Or.inl ⟨by rfl, fun w hSw => ?_⟩) (by assumption) ?_
      · go_simp; rw [if_neg (by omega)]; rfl
      (try simp (maxSteps := 10000000) only [Act.put]); (try simp (maxSteps := 10000000) only [List.setIfInBounds_toArray]); (try simp (maxSteps := 10000000) only [List.set_cons_succ]); (try simp (maxSteps := 10000000) only [List.set_cons_zero])
      refine wpAnyH_ready (rs := [12]) (by kernel_rfl) (by simp) (AllReadyH.cons (i := 12) rfl (fun K9 hK => ?_) AllReadyH.nil)
      go_simp
      refine (parse_nodes (n := 5) HPA.out rfl (by decide) _).mono ?_
      rintro e w3 ⟨g3, c3', Q3, rfl, hr3, hq3, g3'⟩
      have s3 : w.grownBy w3 none := s2.trans g3'
      refine hK.out _ _ s3 (fun hHeld => ?_)
      clear hK K9 hHeld
      (try simp (maxSteps := 10000000) only [Act.put]); (try simp (maxSteps := 10000000) only [List.setIfInBounds_toArray]); (try simp (maxSteps := 10000000) only [List.set_cons_succ]); (try simp (maxSteps := 10000000) only [List.set_cons_zero])
      refine wpAnyH_take (i := 13) (v := .tuple #[.slice (some ⟨g3, 0, none⟩) 5 c3', .int .i64 0, .int .i64 0]) rfl (by kernel_rfl) (by kernel_rfl) (by kernel_rfl) (fun _ _ _ h => h) (Or.inl ⟨by rfl, fun w hSw => ?_⟩) (by assumption) ?_
      · go_simp
      (try simp (maxSteps := 10000000) only [Act.put]); (try simp (maxSteps := 10000000) only [List.setIfInBounds_toArray]); (try simp (maxSteps := 10000000) only [List.set_cons_succ]); (try simp (maxSteps := 10000000) only [List.set_cons_zero])
      refine wpAnyH_take (i := 14) (v := .slice (some ⟨g3, 0, none⟩) 5 c3') rfl (by kernel_rfl) (by kernel_rfl) (by kernel_rfl) (fun _ _ _ h => h) (Or.inl ⟨by rfl, fun w hSw => ?_⟩) (by assumption) ?_
      · go_simp
      (try simp (maxSteps := 10000000) only [Act.put]); (try simp (maxSteps := 10000000) only [List.setIfInBounds_toArray]); (try simp (maxSteps := 10000000) only [List.set_cons_succ]); (try simp (maxSteps := 10000000) only [List.set_cons_zero])
      refine wpAnyH_take (i := 15) (v := .int .i64 0) rfl (by kernel_rfl) (by kernel_rfl) (by kernel_rfl) (fun _ _ _ h => h) (Or.inl ⟨by rfl, fun w hSw => ?_⟩) (by assumption) ?_
      · go_simp
      (try simp (maxSteps := 10000000) only [Act.put]); (try simp (maxSteps := 10000000) only [List.setIfInBounds_toArray]); (try simp (maxSteps := 10000000) only [List.set_cons_succ]); (try simp (maxSteps := 10000000) only [List.set_cons_zero])
      refine wpAnyH_take (i := 16) (v := .int .i64 0) rfl (by kernel_rfl) (by kernel_rfl) (by kernel_rfl) (fun _ _ _ h => h) (Or.inl ⟨by rfl, fun w hSw => ?_⟩) (by assumption) ?_
      · go_simp
      (try simp (maxSteps := 10000000) only [Act.put]); (try simp (maxSteps := 10000000) only [List.setIfInBounds_toArray]); (try simp (maxSteps := 10000000) only [List.set_cons_succ]); (try simp (maxSteps := 10000000) only [List.set_cons_zero])
      refine wpAnyH_ready (rs := [17]) (by kernel_rfl) (by simp) (AllReadyH.cons (i := 17) rfl (fun K9 hK => ?_) AllReadyH.nil)
      go_simp
      refine hK.out _ _ s3 (fun hHeld => ?_)
      clear hK K9 hHeld
      (try simp (maxSteps := 10000000) only [Act.put]); (try simp (maxSteps := 10000000) only [List.setIfInBounds_toArray]); (try simp (maxSteps := 10000000) only [List.set_cons_succ]); (try simp (maxSteps := 10000000) only [List.set_cons_zero])
      refine wpAnyH_ready (rs := [18]) (by kernel_rfl) (by simp) (AllReadyH.cons (i := 18) rfl (fun K9 hK => ?_) AllReadyH.nil)
      go_simp
      refine hK.out _ _ s3 (fun hHeld => ?_)
      clear hK K9 hHeld
      (try simp (maxSteps := 10000000) only [Act.put]); (try simp (maxSteps := 10000000) only [List.setIfInBounds_toArray]); (try simp (maxSteps := 10000000) only [List.set_cons_succ]); (try simp (maxSteps := 10000000) only [List.set_cons_zero])
      refine wpAnyH_ready (rs := [19]) (by kernel_rfl) (by simp) (AllReadyH.cons (i := 19) rfl (fun K9 hK => ?_) AllReadyH.nil)
      go_simp
      refine hK.out _ _ s3 (fun hHeld => ?_)
      clear hK K9 hHeld
      (try simp (maxSteps := 10000000) only [Act.put]); (try simp (maxSteps := 10000000) only [List.setIfInBounds_toArray]); (try simp (maxSteps := 10000000) only [List.set_cons_succ]); (try simp (maxSteps := 10000000) only [List.set_cons_zero])
      refine wpAnyH_done (by kernel_rfl) ?_ _
      go_wp2
      go_meet
      exact ⟨g3, c3', Q3, rfl, rfl, rfl, hr3, hq3, s3⟩
    · go_simp
      refine (r_ops _).mono ?_
      rintro e w2 ⟨rfl, hc2, g2⟩
      have s2 : w.grownBy w2 none := s1.trans g2
      have c6 : w2.cell? ⟨w.heap.size, i, none⟩ = some (.string (opI i)) := g2.cell c5 (by simp)
      have c7 : w2.cell? ⟨w1.heap.size, k, none⟩ = some (.string (opI k)) := hc2 k hk
      clear g2 hc2
      refine hK.out _ _ s2 (fun hHeld => ?_)
      clear hK K9 hHeld
      (try simp (maxSteps := 10000000) only [Act.put]); (try simp (maxSteps := 10000000) only [List.setIfInBounds_toArray]); (try simp (maxSteps := 10000000) only [List.set_cons_succ]); (try simp (maxSteps := 10000000) only [List.set_cons_zero])
      refine wpAnyH_take (i := 8) (v := .pointer (some ⟨w1.heap.size, k, none⟩)) rfl (by kernel_rfl) (by kernel_rfl) (by kernel_rfl) (fun _ _ _ h => h) (Or.inl ⟨by rfl, fun w hSw => ?_⟩) (by assumption) ?_
      · go_simp
      (try simp (maxSteps := 10000000) only [Act.put]); (try simp (maxSteps := 10000000) only [List.setIfInBounds_toArray]); (try simp (maxSteps := 10000000) only [List.set_cons_succ]); (try simp (maxSteps := 10000000) only [List.set_cons_zero])
      refine wpAnyH_ready (rs := [3, 9]) (by kernel_rfl) (by simp) (AllReadyH.cons (i := 3) rfl (fun K9 hK => ?_) (AllReadyH.cons (i := 9) rfl (fun K9 hK => ?_) AllReadyH.nil))
      · go_simp
        refine hK.out _ _ s2 (fun hHeld => ?_)
        clear hK K9 hHeld
        (try simp (maxSteps := 10000000) only [Act.put]); (try simp (maxSteps := 10000000) only [List.setIfInBounds_toArray]); (try simp (maxSteps := 10000000) only [List.set_cons_succ]); (try simp (maxSteps := 10000000) only [List.set_cons_zero])
        refine wpAnyH_take (i := 4) (v := .string (⟨#[97, 32]⟩ ++ opI i)) rfl (by kernel_rfl) (by kernel_rfl) (by kernel_rfl) (fun _ _ _ h => h) (Or.inl ⟨by rfl, fun w hSw => ?_⟩) (by assumption) ?_
        · go_simp; omega
        (try simp (maxSteps := 10000000) only [Act.put]); (try simp (maxSteps := 10000000) only [List.setIfInBounds_toArray]); (try simp (maxSteps := 10000000) only [List.set_cons_succ]); (try simp (maxSteps := 10000000) only [List.set_cons_zero])
        refine wpAnyH_take (i := 5) (v := .string (⟨#[97, 32]⟩ ++ opI i ++ ⟨#[32, 98, 32]⟩)) rfl (by kernel_rfl) (by kernel_rfl) (by kernel_rfl) (fun _ _ _ h => h) (Or.inl ⟨by rfl, fun w hSw => ?_⟩) (by assumption) ?_
        · go_simp; omega
        (try simp (maxSteps := 10000000) only [Act.put]); (try simp (maxSteps := 10000000) only [List.setIfInBounds_toArray]); (try simp (maxSteps := 10000000) only [List.set_cons_succ]); (try simp (maxSteps := 10000000) only [List.set_cons_zero])
        refine wpAnyH_ready (rs := [9]) (by kernel_rfl) (by simp) (AllReadyH.cons (i := 9) rfl (fun K9 hK => ?_) AllReadyH.nil)
        go_simp
        refine hK.out _ _ s2 (fun hHeld => ?_)
        clear hK K9 hHeld
        (try simp (maxSteps := 10000000) only [Act.put]); (try simp (maxSteps := 10000000) only [List.setIfInBounds_toArray]); (try simp (maxSteps := 10000000) only [List.set_cons_succ]); (try simp (maxSteps := 10000000) only [List.set_cons_zero])
        refine wpAnyH_take (i := 10) (v := .string (⟨#[97, 32]⟩ ++ opI i ++ ⟨#[32, 98, 32]⟩ ++ opI k)) rfl (by kernel_rfl) (by kernel_rfl) (by kernel_rfl) (fun _ _ _ h => h) (Or.inl ⟨by rfl, fun w hSw => ?_⟩) (by assumption) ?_
        · go_simp; omega
        (try simp (maxSteps := 10000000) only [Act.put]); (try simp (maxSteps := 10000000) only [List.setIfInBounds_toArray]); (try simp (maxSteps := 10000000) only [List.set_cons_succ]); (try simp (maxSteps := 10000000) only [List.set_cons_zero])
        refine wpAnyH_take (i := 11) (v := .string (rowS i k)) rfl (by kernel_rfl) (by kernel_rfl) (by kernel_rfl) (fun _ _ _ h => h) (Or.inl ⟨by rfl, fun w hSw => ?_⟩) (by assumption) ?_
        · go_simp; rw [if_neg (by omega)]; rfl
        (try simp (maxSteps := 10000000) only [Act.put]); (try simp (maxSteps := 10000000) only [List.setIfInBounds_toArray]); (try simp (maxSteps := 10000000) only [List.set_cons_succ]); (try simp (maxSteps := 10000000) only [List.set_cons_zero])
        refine wpAnyH_ready (rs := [12]) (by kernel_rfl) (by simp) (AllReadyH.cons (i := 12) rfl (fun K9 hK => ?_) AllReadyH.nil)
        go_simp
        refine (parse_nodes (n := 5) HPA.out rfl (by decide) _).mono ?_
        rintro e w3 ⟨g3, c3', Q3, rfl, hr3, hq3, g3'⟩
        have s3 : w.grownBy w3 none := s2.trans g3'
        refine hK.out _ _ s3 (fun hHeld => ?_)
        clear hK K9 hHeld
        (try simp (maxSteps := 10000000) only [Act.put]); (try simp (maxSteps := 10000000) only [List.setIfInBounds_toArray]); (try simp (maxSteps := 10000000) only [List.set_cons_succ]); (try simp (maxSteps := 10000000) only [List.set_cons_zero])
        refine wpAnyH_take (i := 13) (v := .tuple #[.slice (some ⟨g3, 0, none⟩) 5 c3', .int .i64 0, .int .i64 0]) rfl (by kernel_rfl) (by kernel_rfl) (by kernel_rfl) (fun _ _ _ h => h) (Or.inl ⟨by rfl, fun w hSw => ?_⟩) (by assumption) ?_
        · go_simp
        (try simp (maxSteps := 10000000) only [Act.put]); (try simp (maxSteps := 10000000) only [List.setIfInBounds_toArray]); (try simp (maxSteps := 10000000) only [List.set_cons_succ]); (try simp (maxSteps := 10000000) only [List.set_cons_zero])
        refine wpAnyH_take (i := 14) (v := .slice (some ⟨g3, 0, none⟩) 5 c3') rfl (by kernel_rfl) (by kernel_rfl) (by kernel_rfl) (fun _ _ _ h => h) (Or.inl ⟨by rfl, fun w hSw => ?_⟩) (by assumption) ?_
        · go_simp
        (try simp (maxSteps := 10000000) only [Act.put]); (try simp (maxSteps := 10000000) only [List.setIfInBounds_toArray]); (try simp (maxSteps := 10000000) only [List.set_cons_succ]); (try simp (maxSteps := 10000000) only [List.set_cons_zero])
        refine wpAnyH_take (i := 15) (v := .int .i64 0) rfl (by kernel_rfl) (by kernel_rfl) (by kernel_rfl) (fun _ _ _ h => h) (Or.inl ⟨by rfl, fun w hSw => ?_⟩) (by assumption) ?_
        · go_simp
        (try simp (maxSteps := 10000000) only [Act.put]); (try simp (maxSteps := 10000000) only [List.setIfInBounds_toArray]); (try simp (maxSteps := 10000000) only [List.set_cons_succ]); (try simp (maxSteps := 10000000) only [List.set_cons_zero])
        refine wpAnyH_take (i := 16) (v := .int .i64 0) rfl (by kernel_rfl) (by kernel_rfl) (by kernel_rfl) (fun _ _ _ h => h) (Or.inl ⟨by rfl, fun w hSw => ?_⟩) (by assumption) ?_
        · go_simp
        (try simp (maxSteps := 10000000) only [Act.put]); (try simp (maxSteps := 10000000) only [List.setIfInBounds_toArray]); (try simp (maxSteps := 10000000) only [List.set_cons_succ]); (try simp (maxSteps := 10000000) only [List.set_cons_zero])
        refine wpAnyH_ready (rs := [17]) (by kernel_rfl) (by simp) (AllReadyH.cons (i := 17) rfl (fun K9 hK => ?_) AllReadyH.nil)
        go_simp
        refine hK.out _ _ s3 (fun hHeld => ?_)
        clear hK K9 hHeld
        (try simp (maxSteps := 10000000) only [Act.put]); (try simp (maxSteps := 10000000) only [List.setIfInBounds_toArray]); (try simp (maxSteps := 10000000) only [List.set_cons_succ]); (try simp (maxSteps := 10000000) only [List.set_cons_zero])
        refine wpAnyH_ready (rs := [18]) (by kernel_rfl) (by simp) (AllReadyH.cons (i := 18) rfl (fun K9 hK => ?_) AllReadyH.nil)
        go_simp
        refine hK.out _ _ s3 (fun hHeld => ?_)
        clear hK K9 hHeld
        (try simp (maxSteps := 10000000) only [Act.put]); (try simp (maxSteps := 10000000) only [List.setIfInBounds_toArray]); (try simp (maxSteps := 10000000) only [List.set_cons_succ]); (try simp (maxSteps := 10000000) only [List.set_cons_zero])
        refine wpAnyH_ready (rs := [19]) (by kernel_rfl) (by simp) (AllReadyH.cons (i := 19) rfl (fun K9 hK => ?_) AllReadyH.nil)
        go_simp
        refine hK.out _ _ s3 (fun hHeld => ?_)
        clear hK K9 hHeld
        (try simp (maxSteps := 10000000) only [Act.put]); (try simp (maxSteps := 10000000) only [List.setIfInBounds_toArray]); (try simp (maxSteps := 10000000) only [List.set_cons_succ]); (try simp (maxSteps := 10000000) only [List.set_cons_zero])
        refine wpAnyH_done (by kernel_rfl) ?_ _
        go_wp2
        go_meet
        exact ⟨g3, c3', Q3, rfl, rfl, rfl, hr3, hq3, s3⟩
      · go_simp
        refine hK.out _ _ s2 (fun hHeld => ?_)
        clear hK K9 hHeld
        (try simp (maxSteps := 10000000) only [Act.put]); (try simp (maxSteps := 10000000) only [List.setIfInBounds_toArray]); (try simp (maxSteps := 10000000) only [List.set_cons_succ]); (try simp (maxSteps := 10000000) only [List.set_cons_zero])
        refine wpAnyH_ready (rs := [3]) (by kernel_rfl) (by simp) (AllReadyH.cons (i := 3) rfl (fun K9 hK => ?_) AllReadyH.nil)
        go_simp
        refine hK.out _ _ s2 (fun hHeld => ?_)
        clear hK K9 hHeld
        (try simp (maxSteps := 10000000) only [Act.put]); (try simp (maxSteps := 10000000) only [List.setIfInBounds_toArray]); (try simp (maxSteps := 10000000) only [List.set_cons_succ]); (try simp (maxSteps := 10000000) only [List.set_cons_zero])
        refine wpAnyH_take (i := 4) (v := .string (⟨#[97, 32]⟩ ++ opI i)) rfl (by kernel_rfl) (by kernel_rfl) (by kernel_rfl) (fun _ _ _ h => h) (Or.inl ⟨by rfl, fun w hSw => ?_⟩) (by assumption) ?_
        · go_simp; omega
        (try simp (maxSteps := 10000000) only [Act.put]); (try simp (maxSteps := 10000000) only [List.setIfInBounds_toArray]); (try simp (maxSteps := 10000000) only [List.set_cons_succ]); (try simp (maxSteps := 10000000) only [List.set_cons_zero])
        refine wpAnyH_take (i := 5) (v := .string (⟨#[97, 32]⟩ ++ opI i ++ ⟨#[32, 98, 32]⟩)) rfl (by kernel_rfl) (by kernel_rfl) (by kernel_rfl) (fun _ _ _ h => h) (Or.inl ⟨by rfl, fun w hSw => ?_⟩) (by assumption) ?_
        · go_simp; omega
        (try simp (maxSteps := 10000000) only [Act.put]); (try simp (maxSteps := 10000000) only [List.setIfInBounds_toArray]); (try simp (maxSteps := 10000000) only [List.set_cons_succ]); (try simp (maxSteps := 10000000) only [List.set_cons_zero])
        refine wpAnyH_take (i := 10) (v := .string (⟨#[97, 32]⟩ ++ opI i ++ ⟨#[32, 98, 32]⟩ ++ opI k)) rfl (by kernel_rfl) (by kernel_rfl) (by kernel_rfl) (fun _ _ _ h => h) (Or.inl ⟨by rfl, fun w hSw => ?_⟩) (by assumption) ?_
        · go_simp; omega
        (try simp (maxSteps := 10000000) only [Act.put]); (try simp (maxSteps := 10000000) only [List.setIfInBounds_toArray]); (try simp (maxSteps := 10000000) only [List.set_cons_succ]); (try simp (maxSteps := 10000000) only [List.set_cons_zero])
        refine wpAnyH_take (i := 11) (v := .string (rowS i k)) rfl (by kernel_rfl) (by kernel_rfl) (by kernel_rfl) (fun _ _ _ h => h) (Or.inl ⟨by rfl, fun w hSw => ?_⟩) (by assumption) ?_
        · go_simp; rw [if_neg (by omega)]; rfl
        (try simp (maxSteps := 10000000) only [Act.put]); (try simp (maxSteps := 10000000) only [List.setIfInBounds_toArray]); (try simp (maxSteps := 10000000) only [List.set_cons_succ]); (try simp (maxSteps := 10000000) only [List.set_cons_zero])
        refine wpAnyH_ready (rs := [12]) (by kernel_rfl) (by simp) (AllReadyH.cons (i := 12) rfl (fun K9 hK => ?_) AllReadyH.nil)
        go_simp
        refine (parse_nodes (n := 5) HPA.out rfl (by decide) _).mono ?_
        rintro e w3 ⟨g3, c3', Q3, rfl, hr3, hq3, g3'⟩
        have s3 : w.grownBy w3 none := s2.trans g3'
        refine hK.out _ _ s3 (fun hHeld => ?_)
        clear hK K9 hHeld
        (try simp (maxSteps := 10000000) only [Act.put]); (try simp (maxSteps := 10000000) only [List.setIfInBounds_toArray]); (try simp (maxSteps := 10000000) only [List.set_cons_succ]); (try simp (maxSteps := 10000000) only [List.set_cons_zero])
        refine wpAnyH_take (i := 13) (v := .tuple #[.slice (some ⟨g3, 0, none⟩) 5 c3', .int .i64 0, .int .i64 0]) rfl (by kernel_rfl) (by kernel_rfl) (by kernel_rfl) (fun _ _ _ h => h) (Or.inl ⟨by rfl, fun w hSw => ?_⟩) (by assumption) ?_
        · go_simp
        (try simp (maxSteps := 10000000) only [Act.put]); (try simp (maxSteps := 10000000) only [List.setIfInBounds_toArray]); (try simp (maxSteps := 10000000) only [List.set_cons_succ]); (try simp (maxSteps := 10000000) only [List.set_cons_zero])
        refine wpAnyH_take (i := 14) (v := .slice (some ⟨g3, 0, none⟩) 5 c3') rfl (by kernel_rfl) (by kernel_rfl) (by kernel_rfl) (fun _ _ _ h => h) (Or.inl ⟨by rfl, fun w hSw => ?_⟩) (by assumption) ?_
        · go_simp
        (try simp (maxSteps := 10000000) only [Act.put]); (try simp (maxSteps := 10000000) only [List.setIfInBounds_toArray]); (try simp (maxSteps := 10000000) only [List.set_cons_succ]); (try simp (maxSteps := 10000000) only [List.set_cons_zero])
        refine wpAnyH_take (i := 15) (v := .int .i64 0) rfl (by kernel_rfl) (by kernel_rfl) (by kernel_rfl) (fun _ _ _ h => h) (Or.inl ⟨by rfl, fun w hSw => ?_⟩) (by assumption) ?_
        · go_simp
        (try simp (maxSteps := 10000000) only [Act.put]); (try simp (maxSteps := 10000000) only [List.setIfInBounds_toArray]); (try simp (maxSteps := 10000000) only [List.set_cons_succ]); (try simp (maxSteps := 10000000) only [List.set_cons_zero])
        refine wpAnyH_take (i := 16) (v := .int .i64 0) rfl (by kernel_rfl) (by kernel_rfl) (by kernel_rfl) (fun _ _ _ h => h) (Or.inl ⟨by rfl, fun w hSw => ?_⟩) (by assumption) ?_
        · go_simp
        (try simp (maxSteps := 10000000) only [Act.put]); (try simp (maxSteps := 10000000) only [List.setIfInBounds_toArray]); (try simp (maxSteps := 10000000) only [List.set_cons_succ]); (try simp (maxSteps := 10000000) only [List.set_cons_zero])
        refine wpAnyH_ready (rs := [17]) (by kernel_rfl) (by simp) (AllReadyH.cons (i := 17) rfl (fun K9 hK => ?_) AllReadyH.nil)
        go_simp
        refine hK.out _ _ s3 (fun hHeld => ?_)
        clear hK K9 hHeld
        (try simp (maxSteps := 10000000) only [Act.put]); (try simp (maxSteps := 10000000) only [List.setIfInBounds_toArray]); (try simp (maxSteps := 10000000) only [List.set_cons_succ]); (try simp (maxSteps := 10000000) only [List.set_cons_zero])
        refine wpAnyH_ready (rs := [18]) (by kernel_rfl) (by simp) (AllReadyH.cons (i := 18) rfl (fun K9 hK => ?_) AllReadyH.nil)
        go_simp
        refine hK.out _ _ s3 (fun hHeld => ?_)
        clear hK K9 hHeld
        (try simp (maxSteps := 10000000) only [Act.put]); (try simp (maxSteps := 10000000) only [List.setIfInBounds_toArray]); (try simp (maxSteps := 10000000) only [List.set_cons_succ]); (try simp (maxSteps := 10000000) only [List.set_cons_zero])
        refine wpAnyH_ready (rs := [19]) (by kernel_rfl) (by simp) (AllReadyH.cons (i := 19) rfl (fun K9 hK => ?_) AllReadyH.nil)
        go_simp
        refine hK.out _ _ s3 (fun hHeld => ?_)
        clear hK K9 hHeld
        (try simp (maxSteps := 10000000) only [Act.put]); (try simp (maxSteps := 10000000) only [List.setIfInBounds_toArray]); (try simp (maxSteps := 10000000) only [List.set_cons_succ]); (try simp (maxSteps := 10000000) only [List.set_cons_zero])
        refine wpAnyH_done (by kernel_rfl) ?_ _
        go_wp2
        go_meet
        exact ⟨g3, c3', Q3, rfl, rfl, rfl, hr3, hq3, s3⟩
  case rest =>
    obtain ⟨g, c, Q, rfl, rfl, rfl, hr, HQ, hg⟩ := hcut
    have HR := hid hr
    have HG := hid hg
    obtain ⟨q2, h2, e2⟩ := row_of (i := 2) HQ.out rfl
    obtain ⟨q3, h3, e3⟩ := row_of (i := 3) HQ.out rfl
    obtain ⟨q4, h4, e4⟩ := row_of (i := 4) HQ.out rfl
    have H2 := hid h2
    have H3 := hid h3
    have H4 := hid h4
    obtain ⟨a0, a1, a2, a3, a4, a5, a6, a7, a8, a9⟩ := nd_cells hr h2
    obtain ⟨d0, d1, d2, d3, d4, d5, d6, d7, d8, d9⟩ := nd_cells hr h4
    have hbl : g < wc.heap.size := cell_lt' a0
    simp only [slV, Nat.zero_add, Nat.reduceMul, Nat.reduceAdd] at a0 a1 a2 a3 a4 a5 a6 a7 a8 a9 d0 d1 d2 d3 d4 d5 d6 d7 d8 d9
    have E2 := hid e2
    have E3 := hid e3
    have E4 := hid e4
    clear hr hg h2 h3 h4 e2 e3 e4 HLP HLQ HPA
    go_upto_region 5 with fail
    have HTB := hid (two_boxes wc)
    go_cut [10, 11] from 42 (fun t10 t11 wx => ∃ A B, t10 = .pointer (some ⟨A, 0, none⟩) ∧ t11 = .pointer (some ⟨B, 0, none⟩) ∧ A ≠ B ∧ wc.heap.size ≤ A ∧ wx.heap[A]? = some (.cells (ndA q2.1 q2.2.1 q2.2.2) 34 (0, 0)) ∧ wx.heap[B]? = some (.cells (ndA q4.1 q4.2.1 q4.2.2) 34 (0, 0)) ∧ wc.grownBy wx none)
    case first =>
      have gd0 : wc.grownBy wc.drew none := gb_drew (World.grownBy.refl wc none)
      refine wp_region_held_drew (S := fun V => wc.grownBy V none) (by kernel_rfl) gd0 (fun hHeld => ?_)
      refine wpAnyH_take (i := 0) (v := .slice (some ⟨g, 0, none⟩) 5 c) rfl (by kernel_rfl) (by kernel_rfl) (by kernel_rfl) (fun _ _ _ h => h) (Or.inl ⟨by rfl, fun w hSw => ?_⟩) (by assumption) ?_
      · go_simp
      (try simp only [Act.put]); (try simp only [List.setIfInBounds_toArray]); (try simp only [List.set_cons_succ]); (try simp only [List.set_cons_zero])
      refine wpAnyH_take (i := 1) (v := .pointer (some ⟨g, 20, none⟩)) rfl (by kernel_rfl) (by kernel_rfl) (by kernel_rfl) (fun _ _ _ h => h) (Or.inl ⟨by rfl, fun w hSw => ?_⟩) (by assumption) ?_
      · go_simp
      (try simp only [Act.put]); (try simp only [List.setIfInBounds_toArray]); (try simp only [List.set_cons_succ]); (try simp only [List.set_cons_zero])
      refine wpAnyH_take (i := 2) (v := .agg #[.int .i64 q2.1.kind, .int .i64 q2.1.op, .string q2.1.text, .slice q2.2.1.1 q2.2.1.2.1 q2.2.1.2.2, .int .i64 q2.1.width, .int .i64 q2.1.back, .int .i64 q2.1.group, .slice q2.2.2.1 q2.2.2.2.1 q2.2.2.2.2, .bool q2.1.bool, .int .i64 q2.1.parts]) rfl (by kernel_rfl) (by kernel_rfl) (by kernel_rfl) (fun _ _ _ h => h) (Or.inl ⟨by rfl, fun w hSw => ?_⟩) (by assumption) ?_
      · have x0 := hSw.cell a0 (by simp); have x1 := hSw.cell a1 (by simp); have x2 := hSw.cell a2 (by simp); have x3 := hSw.cell a3 (by simp); have x4 := hSw.cell a4 (by simp); have x5 := hSw.cell a5 (by simp); have x6 := hSw.cell a6 (by simp); have x7 := hSw.cell a7 (by simp); have x8 := hSw.cell a8 (by simp); have x9 := hSw.cell a9 (by simp); go_simp
      (try simp only [Act.put]); (try simp only [List.setIfInBounds_toArray]); (try simp only [List.set_cons_succ]); (try simp only [List.set_cons_zero])
      refine wpAnyH_take (i := 3) (v := .slice (some ⟨g, 0, none⟩) 5 c) rfl (by kernel_rfl) (by kernel_rfl) (by kernel_rfl) (fun _ _ _ h => h) (Or.inl ⟨by rfl, fun w hSw => ?_⟩) (by assumption) ?_
      · go_simp
      (try simp only [Act.put]); (try simp only [List.setIfInBounds_toArray]); (try simp only [List.set_cons_succ]); (try simp only [List.set_cons_zero])
      refine wpAnyH_take (i := 4) (v := .pointer (some ⟨g, 40, none⟩)) rfl (by kernel_rfl) (by kernel_rfl) (by kernel_rfl) (fun _ _ _ h => h) (Or.inl ⟨by rfl, fun w hSw => ?_⟩) (by assumption) ?_
      · go_simp
      (try simp only [Act.put]); (try simp only [List.setIfInBounds_toArray]); (try simp only [List.set_cons_succ]); (try simp only [List.set_cons_zero])
      refine wpAnyH_take (i := 5) (v := .agg #[.int .i64 q4.1.kind, .int .i64 q4.1.op, .string q4.1.text, .slice q4.2.1.1 q4.2.1.2.1 q4.2.1.2.2, .int .i64 q4.1.width, .int .i64 q4.1.back, .int .i64 q4.1.group, .slice q4.2.2.1 q4.2.2.2.1 q4.2.2.2.2, .bool q4.1.bool, .int .i64 q4.1.parts]) rfl (by kernel_rfl) (by kernel_rfl) (by kernel_rfl) (fun _ _ _ h => h) (Or.inl ⟨by rfl, fun w hSw => ?_⟩) (by assumption) ?_
      · have x0 := hSw.cell d0 (by simp); have x1 := hSw.cell d1 (by simp); have x2 := hSw.cell d2 (by simp); have x3 := hSw.cell d3 (by simp); have x4 := hSw.cell d4 (by simp); have x5 := hSw.cell d5 (by simp); have x6 := hSw.cell d6 (by simp); have x7 := hSw.cell d7 (by simp); have x8 := hSw.cell d8 (by simp); have x9 := hSw.cell d9 (by simp); go_simp
      (try simp only [Act.put]); (try simp only [List.setIfInBounds_toArray]); (try simp only [List.set_cons_succ]); (try simp only [List.set_cons_zero])
      refine wpAnyH_ready (rs := [6, 7]) (by kernel_rfl) (by simp) (AllReadyH.cons (i := 6) rfl (fun K9 hK => ?_) (AllReadyH.cons (i := 7) rfl (fun K9 hK => ?_) AllReadyH.nil))
      · go_simp
        refine hK.out _ _ (gb_drew (World.grownBy_alloc wc _ none)) (fun hHeld => ?_)
        clear hK K9 hHeld
        (try simp only [Act.put]); (try simp only [List.setIfInBounds_toArray]); (try simp only [List.set_cons_succ]); (try simp only [List.set_cons_zero])
        refine wpAnyH_ready (rs := [7]) (by kernel_rfl) (by simp) (AllReadyH.cons (i := 7) rfl (fun K9 hK => ?_) AllReadyH.nil)
        go_simp
        refine hK.out _ _ (HTB.out _ _).2.2 (fun hHeld => ?_)
        clear hK K9 hHeld
        (try simp only [Act.put]); (try simp only [List.setIfInBounds_toArray]); (try simp only [List.set_cons_succ]); (try simp only [List.set_cons_zero])
        refine wpAnyH_ready (rs := [8]) (by kernel_rfl) (by simp) (AllReadyH.cons (i := 8) rfl (fun K9 hK => ?_) AllReadyH.nil)
        go_simp
        refine hK.out _ _ (HTB.out _ _).2.2 (fun hHeld => ?_)
        clear hK K9 hHeld
        (try simp only [Act.put]); (try simp only [List.setIfInBounds_toArray]); (try simp only [List.set_cons_succ]); (try simp only [List.set_cons_zero])
        refine wpAnyH_ready (rs := [9]) (by kernel_rfl) (by simp) (AllReadyH.cons (i := 9) rfl (fun K9 hK => ?_) AllReadyH.nil)
        go_simp
        refine hK.out _ _ (HTB.out _ _).2.2 (fun hHeld => ?_)
        clear hK K9 hHeld
        (try simp only [Act.put]); (try simp only [List.setIfInBounds_toArray]); (try simp only [List.set_cons_succ]); (try simp only [List.set_cons_zero])
        refine wpAnyH_done (by kernel_rfl) ?_ _
        go_wp2
        go_meet
        exact ⟨wc.heap.size, wc.heap.size + 1, rfl, rfl, by omega, by omega, (HTB.out _ _).1, (HTB.out _ _).2.1, (HTB.out _ _).2.2⟩
      · go_simp
        refine hK.out _ _ (gb_drew (World.grownBy_alloc wc _ none)) (fun hHeld => ?_)
        clear hK K9 hHeld
        (try simp only [Act.put]); (try simp only [List.setIfInBounds_toArray]); (try simp only [List.set_cons_succ]); (try simp only [List.set_cons_zero])
        refine wpAnyH_ready (rs := [6]) (by kernel_rfl) (by simp) (AllReadyH.cons (i := 6) rfl (fun K9 hK => ?_) AllReadyH.nil)
        go_simp
        refine hK.out _ _ (HTB.out _ _).2.2 (fun hHeld => ?_)
        clear hK K9 hHeld
        (try simp only [Act.put]); (try simp only [List.setIfInBounds_toArray]); (try simp only [List.set_cons_succ]); (try simp only [List.set_cons_zero])
        refine wpAnyH_ready (rs := [8]) (by kernel_rfl) (by simp) (AllReadyH.cons (i := 8) rfl (fun K9 hK => ?_) AllReadyH.nil)
        go_simp
        refine hK.out _ _ (HTB.out _ _).2.2 (fun hHeld => ?_)
        clear hK K9 hHeld
        (try simp only [Act.put]); (try simp only [List.setIfInBounds_toArray]); (try simp only [List.set_cons_succ]); (try simp only [List.set_cons_zero])
        refine wpAnyH_ready (rs := [9]) (by kernel_rfl) (by simp) (AllReadyH.cons (i := 9) rfl (fun K9 hK => ?_) AllReadyH.nil)
        go_simp
        refine hK.out _ _ (HTB.out _ _).2.2 (fun hHeld => ?_)
        clear hK K9 hHeld
        (try simp only [Act.put]); (try simp only [List.setIfInBounds_toArray]); (try simp only [List.set_cons_succ]); (try simp only [List.set_cons_zero])
        refine wpAnyH_done (by kernel_rfl) ?_ _
        go_wp2
        go_meet
        exact ⟨wc.heap.size + 1, wc.heap.size, rfl, rfl, by omega, by omega, (HTB.out _ _).2.1, (HTB.out _ _).1, (HTB.out _ _).2.2⟩
    case rest =>
      obtain ⟨A, B, rfl, rfl, hAB, hlA, hA, hB, hg2⟩ := hcut
      have hgA : g ≠ A := by omega
      have HG2 := hid (HG.out.trans hg2)
      have HR2 := hid (HR.out.grown hg2 (by simp))
      have HAR := hid hA
      have HBR := hid hB
      have HRW := hid r_row
      clear a0 a1 a2 a3 a4 a5 a6 a7 a8 a9 d0 d1 d2 d3 d4 d5 d6 d7 d8 d9 hA hB hg2 HTB
      have hk1 : IntKind.i64.wrap ((k : Int) + 1) = (k : Int) + 1 := by rw [IntKind.wrap_i64]; omega
      have hi1 : IntKind.i64.wrap ((i : Int) + 1) = (i : Int) + 1 := by rw [IntKind.wrap_i64]; omega
      have hkl : (k : Int) + 1 < 14 := by omega
      have hil : (i : Int) + 1 < 14 := by omega
      by_cases HC : rowN ((i : Int) + 1) < rowN ((k : Int) + 1)
      · obtain ⟨e3', e4', e2'⟩ := HYES.out HC
        clear HYES HNO
        obtain ⟨f0, f1, f2, f3, f4, f5, f6, f7, f8, f9⟩ := nd_cells HR2.out H3.out
        simp only [slV, Nat.zero_add, Nat.reduceMul, Nat.reduceAdd] at f0 f1 f2 f3 f4 f5 f6 f7 f8 f9
        have ha : ∀ j, j < 10 → ∃ v, wc.cell? ⟨A, j, none⟩ = some v := fun j hj => ⟨_, by rw [cell_of_row wc A _ _ 34 _ HAR.out]; exact Array.getElem?_eq_getElem (by show j < 10; exact hj)⟩
        obtain ⟨_, k0⟩ := ha 0 (by decide)
        obtain ⟨_, k1⟩ := ha 1 (by decide)
        obtain ⟨_, k2⟩ := ha 2 (by decide)
        obtain ⟨_, k3⟩ := ha 3 (by decide)
        obtain ⟨_, k4⟩ := ha 4 (by decide)
        obtain ⟨_, k5⟩ := ha 5 (by decide)
        obtain ⟨_, k6⟩ := ha 6 (by decide)
        obtain ⟨_, k7⟩ := ha 7 (by decide)
        obtain ⟨_, k8⟩ := ha 8 (by decide)
        obtain ⟨_, k9⟩ := ha 9 (by decide)
        have kf : ∀ j, wc.frozen? ⟨A, j, none⟩ = false := free_row HAR.out
        clear ha
        go_wp2_with fail
        refine (HRW.out k hk _).mono ?_
        rintro e w1 ⟨rfl, rfl⟩
        go_wp2_with fail
        refine (HRW.out i hi _).mono ?_
        rintro e w1 ⟨rfl, rfl⟩
        have n2k : q2.1.kind = 2 := by rw [E2.out]; exact e2'
        have n3o : q3.1.op = (k : Int) + 1 := by rw [E3.out]; exact e3'
        have n4o : q4.1.op = (i : Int) + 1 := by rw [E4.out]; exact e4'
        obtain ⟨m0, -⟩ := nd_cells HR2.out H2.out
        simp only [Nat.zero_add, Nat.reduceMul] at m0
        have m1 : wc.cell? ⟨B, 1, none⟩ = some (.int .i64 q4.1.op) := by rw [cell_of_row wc B _ _ 34 _ HBR.out]; rfl
        rw [n2k] at m0
        rw [n4o] at m1
        rw [n3o] at f1
        go_upto_region 7 with fail
        go_cut [10] from 55 (fun t10 wx => t10 = .pointer (some ⟨A, 0, none⟩) ∧ wx.cell? ⟨A, 1, none⟩ = some (.int .i64 ((k : Int) + 1)) ∧ wx.cell? ⟨B, 1, none⟩ = some (.int .i64 ((i : Int) + 1)) ∧ wx.cell? ⟨g, 20, none⟩ = some (.int .i64 2) ∧ Hid (w.grownBy wx none))
        case first =>
          go_wp2_with fail
          go_meet
          have ht := ten_set wc A (.int .i64 q3.1.kind) (.int .i64 ((k : Int) + 1)) (.string q3.1.text) (slV q3.2.1) (.int .i64 q3.1.width) (.int .i64 q3.1.back) (.int .i64 q3.1.group) (slV q3.2.2) (.bool q3.1.bool) (.int .i64 q3.1.parts) k1
          refine ⟨rfl, ht.1, ht.2.cell m1 (by intro e; cases e; exact hAB rfl), ht.2.cell m0 (by intro e; cases e; exact hgA rfl), gb_past HG2.out (Nat.le_trans HG.out.size hlA) ht.2⟩
        case rest =>
          obtain ⟨rfl, p1, p2, p3, HG3⟩ := hcut
          clear f0 f1 f2 f3 f4 f5 f6 f7 f8 f9 k0 k1 k2 k3 k4 k5 k6 k7 k8 k9 kf m0 m1
          go_wp2_with fail
          refine (HRW.out k hk _).mono ?_
          rintro e w1 ⟨rfl, rfl⟩
          go_wp2_with fail
          refine (HRW.out i hi _).mono ?_
          rintro e w1 ⟨rfl, rfl⟩
          go_wp2_with fail
          refine (f_awake _).mono ?_
          rintro e w1 ⟨rfl, h1⟩
          have HG4 := hid (HG3.out.trans h1)
          clear h1
          go_wp2_with fail
          go_ret
          exact ⟨rfl, HG4.out⟩
      · obtain ⟨e2', e4', e3'⟩ := HNO.out (by omega)
        clear HYES HNO
        have n3k : q3.1.kind = 2 := by rw [E3.out]; exact e3'
        have n2o : q2.1.op = (i : Int) + 1 := by rw [E2.out]; exact e2'
        have n4o : q4.1.op = (k : Int) + 1 := by rw [E4.out]; exact e4'
        obtain ⟨m0, -⟩ := nd_cells HR2.out H3.out
        simp only [Nat.zero_add, Nat.reduceMul] at m0
        have m1 : wc.cell? ⟨B, 1, none⟩ = some (.int .i64 q4.1.op) := by rw [cell_of_row wc B _ _ 34 _ HBR.out]; rfl
        have m2 : wc.cell? ⟨A, 1, none⟩ = some (.int .i64 q2.1.op) := by rw [cell_of_row wc A _ _ 34 _ HAR.out]; rfl
        rw [n3k] at m0
        rw [n4o] at m1
        rw [n2o] at m2
        go_wp2_with fail
        refine (HRW.out k hk _).mono ?_
        rintro e w1 ⟨rfl, rfl⟩
        go_wp2_with fail
        refine (HRW.out i hi _).mono ?_
        rintro e w1 ⟨rfl, rfl⟩
        go_wp2_with fail
        refine (HRW.out k hk _).mono ?_
        rintro e w1 ⟨rfl, rfl⟩
        go_wp2_with fail
        refine (HRW.out i hi _).mono ?_
        rintro e w1 ⟨rfl, rfl⟩
        go_wp2_with fail
        refine (f_awake _).mono ?_
        rintro e w1 ⟨rfl, h1⟩
        have HG4 := hid (HG2.out.trans h1)
        clear h1
        go_wp2_with fail
        go_ret
        exact ⟨rfl, HG4.out⟩
end Go.Proofs.Ytnimdngiejcljaa
