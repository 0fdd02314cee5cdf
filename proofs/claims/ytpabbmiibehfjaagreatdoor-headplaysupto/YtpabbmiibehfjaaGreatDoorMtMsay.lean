/- A matcher made ready, and what each kind asks. -/
import Derived.Test.YtpabbmiibehfjaaGreatDoorGx
namespace Go.Proofs.YtpabbmiibehfjaaGreatDoor.Mt
open Go.RowKit
set_option linter.unusedVariables false

theorem size51 : (Tryz.prog.info? 117).map (·.size) = some 2 := by kernel_rfl
/-- A matcher made ready, in a block of its own. -/
def MPair (w : World) (g : Nat) (x y : Value) : Prop := w.heap[g]? = some (.cells #[x, y] 117 (0, 0))
section
variable {w w' : World} {g : Nat} {x y : Value}
theorem MPair.c0 (h : MPair w g x y) : w.cell? ⟨g, 0, none⟩ = some x := by rw [cell_of_row w g 0 _ _ _ h]; rfl
theorem MPair.c1 (h : MPair w g x y) : w.cell? ⟨g, 1, none⟩ = some y := by rw [cell_of_row w g 1 _ _ _ h]; rfl
theorem MPair.f0 (h : MPair w g x y) : w.frozen? ⟨g, 0, none⟩ = false := by unfold MPair at h; simp [World.frozen?, h]
theorem MPair.f1 (h : MPair w g x y) : w.frozen? ⟨g, 1, none⟩ = false := by unfold MPair at h; simp [World.frozen?, h]
theorem MPair.lt (h : MPair w g x y) : g < w.heap.size := (Array.getElem?_eq_some_iff.1 h).1
theorem MPair.grown (h : MPair w g x y) (hg : w.grownBy w' none) : MPair w' g x y := (hg.block g h.lt (by simp)).trans h
theorem MPair.other (h : MPair w g x y) {p : Addr} (hp : p.block ≠ g) (v : Value) : MPair (w.setCell p v) g x y := (Below.heap_setCell w p v g (fun e => hp e.symm)).trans h
theorem MPair.set (h : MPair w g x y) (x' y' : Value) : MPair ((w.setCell ⟨g, 0, none⟩ x').setCell ⟨g, 1, none⟩ y') g x' y' := by
  have h1 : (w.setCell ⟨g, 0, none⟩ x').heap[g]? = some (.cells #[x', y] 117 (0, 0)) := by
    unfold MPair at h
    rw [setCell_eq_setRow w g 0 _ 117 (0, 0) _ h, setRow_heap w g _ _ 117 _ h]
    rfl
  unfold MPair
  rw [setCell_eq_setRow _ g 1 _ 117 (0, 0) _ h1, setRow_heap _ g _ _ 117 _ h1]
  rfl
end
theorem gb_pair {w w1 : World} {g : Nat} (hg : w.grownBy w1 none) (hn : w.heap.size ≤ g) (u v : Value) : w.grownBy ((w1.setCell ⟨g, 0, none⟩ u).setCell ⟨g, 1, none⟩ v) none :=
  gb_trans (gb_trans hg (gb_set (g := g) rfl) (fun k hk => .inl (by cases hk; exact hn))) (gb_set (g := g) rfl) (fun k hk => .inl (by cases hk; exact hn))
theorem alloc3 (w : World) (a b c : Obj) : (((w.alloc a).alloc b).alloc c).heap[w.heap.size + 1]? = some b ∧ (((w.alloc a).alloc b).alloc c).heap[w.heap.size + 2]? = some c := by
  have e1 : (w.alloc a).heap.size = w.heap.size + 1 := by simp
  constructor
  · have h := heap_alloc2_old (w.alloc a) b c
    rwa [e1] at h
  · have h := heap_alloc2_new (w.alloc a) b c
    rwa [e1] at h

set_option maxHeartbeats 2000000 in
/-- A matcher made ready: a pattern of its own for the kinds that ask one. -/
theorem m_made (k : Int) (n v : ByteArray) (w : World) (hv : v.size ≤ 2147483648) (hm : Mx w) :
    Calls Tryz.prog 74 #[.agg #[.int .i64 k, .string n, .string v]] w fun e w' => w.grownBy w' none ∧
      ((k = 3 ∨ k = 4) → ∃ g c, e = .returned (.agg #[.slice (some ⟨g, 0, none⟩) (pcs v).length c, .string v]) ∧ PatRd w' g (pcs v)) ∧ (¬ (k = 3 ∨ k = 4) → e = .returned (.agg #[.slice none 0 0, .string v])) := by
  by_cases h : k = 3 ∨ k = 4
  · have HC : Hid (∀ w', w.grownBy w' none → Calls Tryz.prog 85 #[.string v] w' fun e w'' => ∃ c, e = .returned (.slice (some ⟨w'.heap.size, 0, none⟩) (pcs v).length c) ∧ PatRd w'' w'.heap.size (pcs v) ∧ w'.grownBy w'' none) := fun w' hg => compile_rd v w' hv (hm.grown hg)
    have HA0 : ∀ k, MPair (((w.alloc (Obj.cells #[Value.int IntKind.i64 k, Value.string n, Value.string v] 94)).alloc (Obj.cells #[Value.slice none 0 0, Value.string ⟨#[]⟩] 117)).alloc (Obj.cells #[Value.slice none 0 0, Value.string v] 117)) (w.heap.size + 1) (.slice none 0 0) (.string ⟨#[]⟩) ∧ MPair (((w.alloc (Obj.cells #[Value.int IntKind.i64 k, Value.string n, Value.string v] 94)).alloc (Obj.cells #[Value.slice none 0 0, Value.string ⟨#[]⟩] 117)).alloc (Obj.cells #[Value.slice none 0 0, Value.string v] 117)) (w.heap.size + 2) (.slice none 0 0) (.string v) ∧ w.grownBy (((w.alloc (Obj.cells #[Value.int IntKind.i64 k, Value.string n, Value.string v] 94)).alloc (Obj.cells #[Value.slice none 0 0, Value.string ⟨#[]⟩] 117)).alloc (Obj.cells #[Value.slice none 0 0, Value.string v] 117)) none := fun k => ⟨(alloc3 w _ _ _).1, (alloc3 w _ _ _).2, ((World.grownBy_alloc w _ none).trans (World.grownBy_alloc _ _ none)).trans (World.grownBy_alloc _ _ none)⟩
    clear hm hv
    rcases h with rfl | rfl
    · -- three
      go_enter Tryz.func74, Tryz.ntmps74
      go_wp2_with fail
      refine (HC.out _ ((((World.grownBy_alloc w _ none).trans (World.grownBy_alloc _ _ none)).trans (World.grownBy_alloc _ _ none)))).mono ?_
      rintro e w1 ⟨c, rfl, hrd, hg1⟩
      have HA := HA0 3
      obtain ⟨w0, hw0⟩ : ∃ w0, ((w.alloc (Obj.cells #[Value.int IntKind.i64 3, Value.string n, Value.string v] 94)).alloc (Obj.cells #[Value.slice none 0 0, Value.string ⟨#[]⟩] 117)).alloc (Obj.cells #[Value.slice none 0 0, Value.string v] 117) = w0 := ⟨_, rfl⟩
      rw [hw0] at HA hrd hg1
      have hz0 : w0.heap.size = w.heap.size + 3 := by rw [← hw0]; simp
      obtain ⟨m1, m2, hg0⟩ := HA
      rw [hw0, hz0]
      rw [hz0] at hrd
      have p1 := m1.grown hg1
      have p2 := m2.grown hg1
      have hgw : w.grownBy w1 none := hg0.trans hg1
      have hz1 : w.heap.size + 3 ≤ w1.heap.size := by have := hg1.size; omega
      have HGW : Hid (w.grownBy w1 none) := hgw
      have HR : Hid (PatRd w1 (w.heap.size + 3) (pcs v)) := hrd
      have HP1 : Hid (MPair w1 (w.heap.size + 1) (.slice none 0 0) (.string ⟨#[]⟩)) := p1
      have HP2 : Hid (MPair w1 (w.heap.size + 2) (.slice none 0 0) (.string v)) := p2
      have a0 := p1.c0
      have a1 := p1.c1
      have a2 := p1.f0
      have a3 := p1.f1
      have b0 := p2.c0
      have b1 := p2.c1
      have b2 := p2.f0
      have b3 := p2.f1
      clear p1 p2 m1 m2 hg0 hg1 hw0 hrd hgw HC
      go_wp2
      have t1 : MPair (((w1.setCell ⟨w.heap.size + 2, 0, none⟩ (.slice (some ⟨w.heap.size + 3, 0, none⟩) (pcs v).length c)).setCell ⟨w.heap.size + 1, 0, none⟩ (.slice (some ⟨w.heap.size + 3, 0, none⟩) (pcs v).length c)).setCell ⟨w.heap.size + 1, 1, none⟩ (.string v)) (w.heap.size + 1) (.slice (some ⟨w.heap.size + 3, 0, none⟩) (pcs v).length c) (.string v) := (HP1.out.other (by show w.heap.size + 2 ≠ w.heap.size + 1; omega) _).set _ _
      have t2 : w.grownBy (((w1.setCell ⟨w.heap.size + 2, 0, none⟩ (.slice (some ⟨w.heap.size + 3, 0, none⟩) (pcs v).length c)).setCell ⟨w.heap.size + 1, 0, none⟩ (.slice (some ⟨w.heap.size + 3, 0, none⟩) (pcs v).length c)).setCell ⟨w.heap.size + 1, 1, none⟩ (.string v)) none := gb_pair (gb_trans HGW.out (gb_set (g := w.heap.size + 2) rfl) (fun k hk => .inl (by cases hk; omega))) (by omega) _ _
      have t3 : PatRd (((w1.setCell ⟨w.heap.size + 2, 0, none⟩ (.slice (some ⟨w.heap.size + 3, 0, none⟩) (pcs v).length c)).setCell ⟨w.heap.size + 1, 0, none⟩ (.slice (some ⟨w.heap.size + 3, 0, none⟩) (pcs v).length c)).setCell ⟨w.heap.size + 1, 1, none⟩ (.string v)) (w.heap.size + 3) (pcs v) := ((HR.out.set (by show w.heap.size + 2 < w.heap.size + 3; omega) _).set (by show w.heap.size + 1 < w.heap.size + 3; omega) _).set (by show w.heap.size + 1 < w.heap.size + 3; omega) _
      refine bodyPost_ret (v := .agg #[.slice (some ⟨w.heap.size + 3, 0, none⟩) (pcs v).length c, .string v]) (results_cell_row Tryz.results74 _ _ (w.heap.size + 1) 117 _ (0, 0) _ rfl t1 Tryz.underlying117 rfl size51) rfl ⟨t2, fun _ => ⟨_, _, rfl, t3⟩, fun h => (h (by decide)).elim⟩
    · -- four
      go_enter Tryz.func74, Tryz.ntmps74
      go_wp2_with fail
      refine (HC.out _ ((((World.grownBy_alloc w _ none).trans (World.grownBy_alloc _ _ none)).trans (World.grownBy_alloc _ _ none)))).mono ?_
      rintro e w1 ⟨c, rfl, hrd, hg1⟩
      have HA := HA0 4
      obtain ⟨w0, hw0⟩ : ∃ w0, ((w.alloc (Obj.cells #[Value.int IntKind.i64 4, Value.string n, Value.string v] 94)).alloc (Obj.cells #[Value.slice none 0 0, Value.string ⟨#[]⟩] 117)).alloc (Obj.cells #[Value.slice none 0 0, Value.string v] 117) = w0 := ⟨_, rfl⟩
      rw [hw0] at HA hrd hg1
      have hz0 : w0.heap.size = w.heap.size + 3 := by rw [← hw0]; simp
      obtain ⟨m1, m2, hg0⟩ := HA
      rw [hw0, hz0]
      rw [hz0] at hrd
      have p1 := m1.grown hg1
      have p2 := m2.grown hg1
      have hgw : w.grownBy w1 none := hg0.trans hg1
      have hz1 : w.heap.size + 3 ≤ w1.heap.size := by have := hg1.size; omega
      have HGW : Hid (w.grownBy w1 none) := hgw
      have HR : Hid (PatRd w1 (w.heap.size + 3) (pcs v)) := hrd
      have HP1 : Hid (MPair w1 (w.heap.size + 1) (.slice none 0 0) (.string ⟨#[]⟩)) := p1
      have HP2 : Hid (MPair w1 (w.heap.size + 2) (.slice none 0 0) (.string v)) := p2
      have a0 := p1.c0
      have a1 := p1.c1
      have a2 := p1.f0
      have a3 := p1.f1
      have b0 := p2.c0
      have b1 := p2.c1
      have b2 := p2.f0
      have b3 := p2.f1
      clear p1 p2 m1 m2 hg0 hg1 hw0 hrd hgw HC
      go_wp2
      have t1 : MPair (((w1.setCell ⟨w.heap.size + 2, 0, none⟩ (.slice (some ⟨w.heap.size + 3, 0, none⟩) (pcs v).length c)).setCell ⟨w.heap.size + 1, 0, none⟩ (.slice (some ⟨w.heap.size + 3, 0, none⟩) (pcs v).length c)).setCell ⟨w.heap.size + 1, 1, none⟩ (.string v)) (w.heap.size + 1) (.slice (some ⟨w.heap.size + 3, 0, none⟩) (pcs v).length c) (.string v) := (HP1.out.other (by show w.heap.size + 2 ≠ w.heap.size + 1; omega) _).set _ _
      have t2 : w.grownBy (((w1.setCell ⟨w.heap.size + 2, 0, none⟩ (.slice (some ⟨w.heap.size + 3, 0, none⟩) (pcs v).length c)).setCell ⟨w.heap.size + 1, 0, none⟩ (.slice (some ⟨w.heap.size + 3, 0, none⟩) (pcs v).length c)).setCell ⟨w.heap.size + 1, 1, none⟩ (.string v)) none := gb_pair (gb_trans HGW.out (gb_set (g := w.heap.size + 2) rfl) (fun k hk => .inl (by cases hk; omega))) (by omega) _ _
      have t3 : PatRd (((w1.setCell ⟨w.heap.size + 2, 0, none⟩ (.slice (some ⟨w.heap.size + 3, 0, none⟩) (pcs v).length c)).setCell ⟨w.heap.size + 1, 0, none⟩ (.slice (some ⟨w.heap.size + 3, 0, none⟩) (pcs v).length c)).setCell ⟨w.heap.size + 1, 1, none⟩ (.string v)) (w.heap.size + 3) (pcs v) := ((HR.out.set (by show w.heap.size + 2 < w.heap.size + 3; omega) _).set (by show w.heap.size + 1 < w.heap.size + 3; omega) _).set (by show w.heap.size + 1 < w.heap.size + 3; omega) _
      refine bodyPost_ret (v := .agg #[.slice (some ⟨w.heap.size + 3, 0, none⟩) (pcs v).length c, .string v]) (results_cell_row Tryz.results74 _ _ (w.heap.size + 1) 117 _ (0, 0) _ rfl t1 Tryz.underlying117 rfl size51) rfl ⟨t2, fun _ => ⟨_, _, rfl, t3⟩, fun h => (h (by decide)).elim⟩
  · have h3 : (k == 3) = false := by simp; omega
    have h4 : (k == 4) = false := by simp; omega
    have H : Hid (¬ (k = 3 ∨ k = 4)) := h
    clear h hv hm
    go_enter Tryz.func74, Tryz.ntmps74
    go_wp2
    refine bodyPost_ret (v := .agg #[.slice none 0 0, .string v]) (results_cell_row Tryz.results74 _ _ (w.heap.size + 1) 117 _ (0, 0) _ rfl (alloc3 w _ _ _).1 Tryz.underlying117 rfl size51) rfl ⟨((World.grownBy_alloc w _ none).trans (World.grownBy_alloc _ _ none)).trans (World.grownBy_alloc _ _ none), fun h => (H.out h).elim, fun _ => rfl⟩
set_option maxHeartbeats 400000 in
theorem m_is (p : Option Addr) (l c : Nat) (s v : ByteArray) (w : World) : Calls Tryz.prog 95 #[.agg #[.slice p l c, .string s], .string v] w fun e w' => e = .returned (.bool (decide (v = s))) ∧ w.grownBy w' none := by
  have q := str_eq v s
  generalize decide (v = s) = b at q ⊢
  go_enter Tryz.func95, Tryz.ntmps95
  go_wp2
  go_ret
  exact ⟨rfl, World.grownBy_alloc w _ none⟩
set_option maxHeartbeats 400000 in
theorem m_isNot (p : Option Addr) (l c : Nat) (s v : ByteArray) (w : World) : Calls Tryz.prog 96 #[.agg #[.slice p l c, .string s], .string v] w fun e w' => e = .returned (.bool (!decide (v = s))) ∧ w.grownBy w' none := by
  have HI : Hid (∀ w, Calls Tryz.prog 95 #[.agg #[.slice p l c, .string s], .string v] w fun e w' => e = .returned (.bool (decide (v = s))) ∧ w.grownBy w' none) := m_is p l c s v
  generalize decide (v = s) = b at HI ⊢
  go_enter Tryz.func96, Tryz.ntmps96
  go_wp2_with fail
  refine (HI.out _).mono ?_
  rintro e w1 ⟨rfl, hg⟩
  have HG : Hid (w.grownBy w1 none) := (World.grownBy_alloc w _ none).trans hg
  clear hg
  go_wp2
  go_ret
  exact ⟨rfl, HG.out⟩
set_option maxHeartbeats 400000 in
theorem m_unlike (g c : Nat) (p s v : ByteArray) (R : Bool) (w : World) (hp : p.size ≤ 2147483648) (hv : v.size ≤ 2147483648) (hm : Mx w) (hrd : PatRd w g (pcs p)) (hR : likeS p v = R) :
    Calls Tryz.prog 98 #[.agg #[.slice (some ⟨g, 0, none⟩) (pcs p).length c, .string s], .string v] w fun e w' => e = .returned (.bool (!R)) ∧ w.grownBy w' none := by
  have hl := pcs_le p
  have HL : Hid (∀ w', w.grownBy w' none → Calls Tryz.prog 97 #[.slice (some ⟨g, 0, none⟩) (pcs p).length c, .string v] w' fun e w'' => e = .returned (.bool R) ∧ ∃ k, w'' = w'.drewN k) := fun w' hg => by
    obtain ⟨h0, m, hm'⟩ := hm.grown hg
    exact r_plike g _ c (pcs p) v R m w' rfl (by omega) hv (fun x hx => by have := pcs_size p x hx; omega) (hrd.grown hg) hm' (by rw [← like_any]; exact hR)
  clear hp hv hm hrd hR hl
  go_enter Tryz.func98, Tryz.ntmps98
  go_wp2_with fail
  refine (HL.out _ (World.grownBy_alloc w _ none)).mono ?_
  rintro e w1 ⟨rfl, k, rfl⟩
  go_wp2
  go_ret
  exact ⟨rfl, gb_drewN' (World.grownBy_alloc w _ none) k⟩
end Go.Proofs.YtpabbmiibehfjaaGreatDoor.Mt
