/- Several texts in one: Rp, Rq, Rr, Rs. -/
import Derived.Test.YtboamjhlaehoaaaGreatMj
import Derived.Shelf.SlSortCmp.NoneTotal
import Derived.Lib.AppendZeros
/- Rings: byToken; State, Check. -/
namespace Go.Proofs.YtboamjhlaehoaaaGreat
open Go.RowKit Go.Sort
set_option linter.unusedVariables false
set_option maxRecDepth 20000

theorem g_compareW (a b : Int) (w : World) : Calls Tryz.prog 110 #[.int .u32 a, .int .u32 b] w fun e w' => e = .returned (.int .i64 (cmpI a b)) ∧ w' = w := by
  have ha : (a != a) = false := by simp
  have hb : (b != b) = false := by simp
  by_cases h1 : a < b
  · rw [show cmpI a b = -1 by simp [cmpI, h1]]
    go_enter Tryz.func110, Tryz.ntmps110
    go_wp2
    go_ret
    exact ⟨rfl, rfl⟩
  · by_cases h2 : b < a
    · rw [show cmpI a b = 1 by simp [cmpI, h1, h2]]
      go_enter Tryz.func110, Tryz.ntmps110
      go_wp2
      go_ret
      exact ⟨rfl, rfl⟩
    · rw [show cmpI a b = 0 by simp [cmpI, h1, h2]]
      go_enter Tryz.func110, Tryz.ntmps110
      go_wp2
      go_ret
      exact ⟨rfl, rfl⟩
theorem g_or (b : Nat) (x y : Int) (w : World) (hx : w.cell? ⟨b, 0, none⟩ = some (.int .i64 x)) (hy : w.cell? ⟨b, 1, none⟩ = some (.int .i64 y)) :
    Calls Tryz.prog 109 #[.slice (some ⟨b, 0, none⟩) 2 2] w fun e w' => e = .returned (.int .i64 (if x = 0 then y else x)) ∧ w' = w := by
  by_cases h0 : x = 0
  · subst h0
    rw [if_pos rfl]
    by_cases h1 : y = 0
    · subst h1
      go_enter Tryz.func109, Tryz.ntmps109
      go_wp2
      refine wp_loop_rounds 3 ?_
      rw [rounds_succ]
      go_wp2
      rw [rounds_succ]
      go_wp2
      rw [rounds_succ]
      go_wp2
      go_ret
      exact ⟨rfl, rfl⟩
    · have hb : (y != 0) = true := by simpa using h1
      go_enter Tryz.func109, Tryz.ntmps109
      go_wp2
      refine wp_loop_rounds 2 ?_
      rw [rounds_succ]
      go_wp2
      rw [rounds_succ]
      go_wp2
      go_ret
      exact ⟨rfl, rfl⟩
  · rw [if_neg h0]
    have hb : (x != 0) = true := by simpa using h0
    go_enter Tryz.func109, Tryz.ntmps109
    go_wp2
    refine wp_loop_rounds 1 ?_
    rw [rounds_succ]
    go_wp2
    go_ret
    exact ⟨rfl, rfl⟩
/-- A place on the circle. -/
abbrev Pl := Int × Int
def plV (p : Pl) : List Value := [.int .u32 p.1, .int .i64 p.2]
def cmpP (p q : Pl) : Int := if cmpI p.1 q.1 = 0 then cmpI p.2 q.2 else cmpI p.1 q.1
theorem cmpP_neg (p q : Pl) : cmpP p q < 0 ↔ p.1 < q.1 ∨ p.1 = q.1 ∧ p.2 < q.2 := by
  unfold cmpP
  by_cases h : cmpI p.1 q.1 = 0
  · rw [if_pos h, cmpI_neg]
    have := (cmpI_zero _ _).1 h
    omega
  · rw [if_neg h, cmpI_neg]
    have : ¬ p.1 = q.1 := fun e => h ((cmpI_zero _ _).2 e)
    omega
set_option maxHeartbeats 2000000 in
theorem g_byToken (p q : Pl) (w : World) : Calls Tryz.prog 78 #[.agg #[.int .u32 p.1, .int .i64 p.2], .agg #[.int .u32 q.1, .int .i64 q.2]] w fun e w' => e = .returned (.int .i64 (cmpP p q)) ∧ ∃ m os, w' = grow (w.drewN m) os := by
  obtain ⟨t1, i1⟩ := p
  obtain ⟨t2, i2⟩ := q
  have HC1 := fun w => g_compareW t1 t2 w
  have HC2 := fun w => g_compare i1 i2 w
  have HP : Hid ((if cmpI t1 t2 = 0 then cmpI i1 i2 else cmpI t1 t2) = cmpP (t1, i1) (t2, i2)) := rfl
  generalize cmpI t1 t2 = x at HC1 HP
  generalize cmpI i1 i2 = y at HC2 HP
  generalize cmpP (t1, i1) (t2, i2) = z at HP ⊢
  have HOR : Hid (∀ w1 : World, Calls Tryz.prog 109 #[.slice (some ⟨w1.heap.size, 0, none⟩) 2 2] (w1.alloc (.cells #[.int .i64 x, .int .i64 y] 3)) fun e w' => e = .returned (.int .i64 z) ∧ w' = w1.alloc (.cells #[.int .i64 x, .int .i64 y] 3)) := fun w1 => by
    obtain ⟨c0, c1⟩ := cell2 (heap_alloc_new w1 (.cells #[.int .i64 x, .int .i64 y] 3))
    have := g_or w1.heap.size x y (w1.alloc (.cells #[.int .i64 x, .int .i64 y] 3)) c0 c1
    rw [HP.out] at this
    exact this
  have HC0 : Hid (((w.alloc (.cells #[.int .u32 t1, .int .i64 i1] 106)).alloc (.cells #[.int .u32 t2, .int .i64 i2] 106)).cell? ⟨w.heap.size, 0, none⟩ = some (.int .u32 t1) ∧ ((w.alloc (.cells #[.int .u32 t1, .int .i64 i1] 106)).alloc (.cells #[.int .u32 t2, .int .i64 i2] 106)).cell? ⟨w.heap.size, 1, none⟩ = some (.int .i64 i1) ∧ ((w.alloc (.cells #[.int .u32 t1, .int .i64 i1] 106)).alloc (.cells #[.int .u32 t2, .int .i64 i2] 106)).cell? ⟨w.heap.size + 1, 0, none⟩ = some (.int .u32 t2) ∧ ((w.alloc (.cells #[.int .u32 t1, .int .i64 i1] 106)).alloc (.cells #[.int .u32 t2, .int .i64 i2] 106)).cell? ⟨w.heap.size + 1, 1, none⟩ = some (.int .i64 i2)) := by
    have g2 := World.grownBy_alloc (w.alloc (.cells #[.int .u32 t1, .int .i64 i1] 106)) (.cells #[.int .u32 t2, .int .i64 i2] 106) none
    obtain ⟨c0, c1⟩ := cell2 (heap_alloc_new w (.cells #[.int .u32 t1, .int .i64 i1] 106))
    obtain ⟨d0, d1⟩ := cell2 (heap_alloc_new (w.alloc (.cells #[.int .u32 t1, .int .i64 i1] 106)) (.cells #[.int .u32 t2, .int .i64 i2] 106))
    rw [size_alloc] at d0 d1
    exact ⟨g2.cell c0 (by simp), g2.cell c1 (by simp), d0, d1⟩
  have HW : Hid (∃ m os, ((w.alloc (.cells #[.int .u32 t1, .int .i64 i1] 106)).alloc (.cells #[.int .u32 t2, .int .i64 i2] 106)).drew.alloc (.cells #[.int .i64 x, .int .i64 y] 3) = grow (w.drewN m) os) := by
    refine ⟨1, #[.cells #[.int .u32 t1, .int .i64 i1] 106, .cells #[.int .u32 t2, .int .i64 i2] 106, .cells #[.int .i64 x, .int .i64 y] 3], ?_⟩
    rw [alloc_eq_grow, alloc_eq_grow, drew_grow, alloc_eq_grow, drew_grow, grow_grow, grow_grow]
    rfl
  go_enter Tryz.func78, Tryz.ntmps78
  go_wp2_with fail
  generalize ((w.alloc (.cells #[.int .u32 t1, .int .i64 i1] 106)).alloc (.cells #[.int .u32 t2, .int .i64 i2] 106)) = W0 at HC0 HW ⊢
  have HS2 : Hid ((W0.drew.alloc (.cells #[.int .i64 x, .int .i64 y] 3)).cell? ⟨w.heap.size, 0, none⟩ = some (.int .u32 t1) ∧ (W0.drew.alloc (.cells #[.int .i64 x, .int .i64 y] 3)).cell? ⟨w.heap.size, 1, none⟩ = some (.int .i64 i1) ∧ (W0.drew.alloc (.cells #[.int .i64 x, .int .i64 y] 3)).cell? ⟨w.heap.size + 1, 0, none⟩ = some (.int .u32 t2) ∧ (W0.drew.alloc (.cells #[.int .i64 x, .int .i64 y] 3)).cell? ⟨w.heap.size + 1, 1, none⟩ = some (.int .i64 i2)) := by
    have gg := (gb_drew (World.grownBy.refl W0 none)).trans (World.grownBy_alloc W0.drew (.cells #[.int .i64 x, .int .i64 y] 3) none)
    obtain ⟨c0, c1, c2, c3⟩ := HC0.out
    exact ⟨gg.cell c0 (by simp), gg.cell c1 (by simp), gg.cell c2 (by simp), gg.cell c3 (by simp)⟩
  have HS : Hid (W0.drew.cell? ⟨w.heap.size, 0, none⟩ = some (.int .u32 t1) ∧ W0.drew.cell? ⟨w.heap.size, 1, none⟩ = some (.int .i64 i1) ∧ W0.drew.cell? ⟨w.heap.size + 1, 0, none⟩ = some (.int .u32 t2) ∧ W0.drew.cell? ⟨w.heap.size + 1, 1, none⟩ = some (.int .i64 i2)) := HC0.out
  refine wp_region_held_drew (S := fun u => u.cell? ⟨w.heap.size, 0, none⟩ = some (.int .u32 t1) ∧ u.cell? ⟨w.heap.size, 1, none⟩ = some (.int .i64 i1) ∧ u.cell? ⟨w.heap.size + 1, 0, none⟩ = some (.int .u32 t2) ∧ u.cell? ⟨w.heap.size + 1, 1, none⟩ = some (.int .i64 i2)) (by kernel_rfl) HS.out (fun hHeld => ?_)
  refine wpAnyH_take (i := 0) (v := .pointer (some ⟨w.heap.size, 0, none⟩)) rfl (by kernel_rfl) (by kernel_rfl) (by kernel_rfl) (fun _ _ _ h => h) (Or.inl ⟨by rfl, fun w hSw => ?_⟩) (by assumption) ?_
  · obtain ⟨s0, s1, s2, s3⟩ := hSw; go_simp
  (try simp only [Act.put]); (try simp only [List.setIfInBounds_toArray]); (try simp only [List.set_cons_succ]); (try simp only [List.set_cons_zero])
  refine wpAnyH_take (i := 1) (v := .int .u32 t1) rfl (by kernel_rfl) (by kernel_rfl) (by kernel_rfl) (fun _ _ _ h => h) (Or.inl ⟨by rfl, fun w hSw => ?_⟩) (by assumption) ?_
  · obtain ⟨s0, s1, s2, s3⟩ := hSw; go_simp
  (try simp only [Act.put]); (try simp only [List.setIfInBounds_toArray]); (try simp only [List.set_cons_succ]); (try simp only [List.set_cons_zero])
  refine wpAnyH_take (i := 2) (v := .pointer (some ⟨w.heap.size + 1, 0, none⟩)) rfl (by kernel_rfl) (by kernel_rfl) (by kernel_rfl) (fun _ _ _ h => h) (Or.inl ⟨by rfl, fun w hSw => ?_⟩) (by assumption) ?_
  · obtain ⟨s0, s1, s2, s3⟩ := hSw; go_simp
  (try simp only [Act.put]); (try simp only [List.setIfInBounds_toArray]); (try simp only [List.set_cons_succ]); (try simp only [List.set_cons_zero])
  refine wpAnyH_take (i := 3) (v := .int .u32 t2) rfl (by kernel_rfl) (by kernel_rfl) (by kernel_rfl) (fun _ _ _ h => h) (Or.inl ⟨by rfl, fun w hSw => ?_⟩) (by assumption) ?_
  · obtain ⟨s0, s1, s2, s3⟩ := hSw; go_simp
  (try simp only [Act.put]); (try simp only [List.setIfInBounds_toArray]); (try simp only [List.set_cons_succ]); (try simp only [List.set_cons_zero])
  refine wpAnyH_take (i := 5) (v := .pointer (some ⟨w.heap.size, 1, none⟩)) rfl (by kernel_rfl) (by kernel_rfl) (by kernel_rfl) (fun _ _ _ h => h) (Or.inl ⟨by rfl, fun w hSw => ?_⟩) (by assumption) ?_
  · obtain ⟨s0, s1, s2, s3⟩ := hSw; go_simp
  (try simp only [Act.put]); (try simp only [List.setIfInBounds_toArray]); (try simp only [List.set_cons_succ]); (try simp only [List.set_cons_zero])
  refine wpAnyH_take (i := 6) (v := .int .i64 i1) rfl (by kernel_rfl) (by kernel_rfl) (by kernel_rfl) (fun _ _ _ h => h) (Or.inl ⟨by rfl, fun w hSw => ?_⟩) (by assumption) ?_
  · obtain ⟨s0, s1, s2, s3⟩ := hSw; go_simp
  (try simp only [Act.put]); (try simp only [List.setIfInBounds_toArray]); (try simp only [List.set_cons_succ]); (try simp only [List.set_cons_zero])
  refine wpAnyH_take (i := 7) (v := .pointer (some ⟨w.heap.size + 1, 1, none⟩)) rfl (by kernel_rfl) (by kernel_rfl) (by kernel_rfl) (fun _ _ _ h => h) (Or.inl ⟨by rfl, fun w hSw => ?_⟩) (by assumption) ?_
  · obtain ⟨s0, s1, s2, s3⟩ := hSw; go_simp
  (try simp only [Act.put]); (try simp only [List.setIfInBounds_toArray]); (try simp only [List.set_cons_succ]); (try simp only [List.set_cons_zero])
  refine wpAnyH_take (i := 8) (v := .int .i64 i2) rfl (by kernel_rfl) (by kernel_rfl) (by kernel_rfl) (fun _ _ _ h => h) (Or.inl ⟨by rfl, fun w hSw => ?_⟩) (by assumption) ?_
  · obtain ⟨s0, s1, s2, s3⟩ := hSw; go_simp
  (try simp only [Act.put]); (try simp only [List.setIfInBounds_toArray]); (try simp only [List.set_cons_succ]); (try simp only [List.set_cons_zero])
  refine wpAnyH_ready (rs := [4]) (by kernel_rfl) (by simp) (AllReadyH.cons (i := 4) rfl (fun K hK => ?_) AllReadyH.nil)
  go_simp
  refine (HC1 _).mono ?_
  rintro e w9 ⟨rfl, e9⟩
  rw [e9]
  clear e9
  refine hK.out _ _ HS.out (fun hHeld => ?_)
  clear hK K
  (try simp only [Act.put]); (try simp only [List.setIfInBounds_toArray]); (try simp only [List.set_cons_succ]); (try simp only [List.set_cons_zero])
  refine wpAnyH_ready (rs := [9]) (by kernel_rfl) (by simp) (AllReadyH.cons (i := 9) rfl (fun K hK => ?_) AllReadyH.nil)
  go_simp
  refine (HC2 _).mono ?_
  rintro e w9 ⟨rfl, e9⟩
  rw [e9]
  clear e9
  refine hK.out _ _ HS.out (fun hHeld => ?_)
  clear hK K
  (try simp only [Act.put]); (try simp only [List.setIfInBounds_toArray]); (try simp only [List.set_cons_succ]); (try simp only [List.set_cons_zero])
  refine wpAnyH_ready (rs := [10]) (by kernel_rfl) (by simp) (AllReadyH.cons (i := 10) rfl (fun K hK => ?_) AllReadyH.nil)
  go_simp
  refine hK.out _ _ HS2.out (fun hHeld => ?_)
  clear hK K
  (try simp only [Act.put]); (try simp only [List.setIfInBounds_toArray]); (try simp only [List.set_cons_succ]); (try simp only [List.set_cons_zero])
  refine wpAnyH_ready (rs := [11]) (by kernel_rfl) (by simp) (AllReadyH.cons (i := 11) rfl (fun K hK => ?_) AllReadyH.nil)
  go_simp
  refine (HOR.out W0.drew).mono ?_
  rintro e w9 ⟨rfl, e9⟩
  rw [e9]
  clear e9
  refine hK.out _ _ HS2.out (fun hHeld => ?_)
  clear hK K
  (try simp only [Act.put]); (try simp only [List.setIfInBounds_toArray]); (try simp only [List.set_cons_succ]); (try simp only [List.set_cons_zero])
  refine wpAnyH_ready (rs := [12]) (by kernel_rfl) (by simp) (AllReadyH.cons (i := 12) rfl (fun K hK => ?_) AllReadyH.nil)
  go_simp
  refine hK.out _ _ HS2.out (fun hHeld => ?_)
  clear hK K
  (try simp only [Act.put]); (try simp only [List.setIfInBounds_toArray]); (try simp only [List.set_cons_succ]); (try simp only [List.set_cons_zero])
  refine wpAnyH_done (by kernel_rfl) ?_ _
  go_wp2
  go_ret
  exact ⟨rfl, HW.out⟩
end Go.Proofs.YtboamjhlaehoaaaGreat

/- Rings: the places of the active members, in order. -/
namespace Go.Proofs.YtboamjhlaehoaaaGreat
open Go.RowKit Go.Sort
set_option linter.unusedVariables false
set_option maxRecDepth 20000

def placeE : Elem Pl where
  cells := plV
  size := 2
  pos := by decide
  len _ := rfl
  one p v h := by
    simp only [plV, List.mem_cons, List.mem_nil_iff, or_false] at h
    rcases h with rfl | rfl <;> rfl
theorem info106 : (Tryz.prog.info? 106).map (fun i => (i.zero, i.size, i.bytes)) = some (some (.agg #[.int .u32 0, .int .i64 0]), 2, 16) := by kernel_rfl
theorem placeT : ElemOf placeE Tryz.prog 102 106 16 := by
  obtain ⟨i0, hi, hz0, hz1, hz2⟩ := info_part info106
  exact ⟨Tryz.underlying102, i0, _, hi, hz0, hz1, hz2, rfl⟩
theorem flat_flatK (l : List Pl) (j : Nat) (v : Value) (h : (placeE.flat l)[j]? = some v) : j < l.length * 2 ∧ (flatK plV 2 l.toArray)[j]! = v := by
  have hj : j < (placeE.flat l).length := (List.getElem?_eq_some_iff.1 h).1
  rw [placeE.flat_len] at hj
  have hj' : j < l.length * 2 := hj
  refine ⟨hj', ?_⟩
  have hi : j / 2 < l.length := by omega
  have e := placeE.flat_get l (j / 2) l[j / 2] (j % 2) (List.getElem?_eq_getElem hi) (by show j % 2 < 2; omega)
  rw [show j / 2 * placeE.size + j % 2 = j by show j / 2 * 2 + j % 2 = j; omega, h] at e
  rw [get_flatK plV 2 l.toArray j (by simpa using hj')]
  have : l.toArray[j / 2]! = l[j / 2] := by rw [getElem!_pos _ _ (by simpa using hi)]; simp
  rw [this]
  have e2 : (plV l[j / 2])[j % 2]? = some v := e.symm
  rw [List.getElem!_eq_getElem?_getD, e2]
  rfl
theorem holdsK_of {w : World} {base g n c : Nat} {l : List Pl} (h : SOwn placeE 106 w base (.slice (some ⟨g, 0, none⟩) n c) n l) : HoldsK plV 2 w g 0 l.toArray := by
  intro t ht
  rw [size_flatK] at ht
  have ht' : t < l.length * 2 := by simpa using ht
  obtain ⟨v, hv⟩ : ∃ v, (placeE.flat l)[t]? = some v := ⟨_, List.getElem?_eq_getElem (by rw [placeE.flat_len]; exact ht')⟩
  have h1 := (flat_flatK l t v hv).2
  have hpos : 0 < l.length := by omega
  rcases SOwn.rd h with e | ⟨b, o, e, hc⟩
  · rw [e] at hpos; simp at hpos
  · cases e
    refine ⟨?_, sown_free h _⟩
    rw [hc t v hv]
    simp only [id]
    rw [h1]
theorem srd_of_holdsK {w : World} {g : Nat} {l : List Pl} (h : HoldsK plV 2 w g 0 l.toArray) : SRd placeE w (some ⟨g, 0, none⟩) l := by
  refine .inr ⟨g, 0, rfl, fun j v hj => ?_⟩
  obtain ⟨h1, h2⟩ := flat_flatK l j v hj
  have := (h j (by rw [size_flatK]; simpa using h1)).1
  rw [this]
  simp only [id]
  rw [h2]
theorem gb_sortK (w : World) (g m : Nat) (d : Array Pl) (os : Array Obj) : w.grownBy (sortWorldK plV 2 w g 0 m d os) (some g) :=
  ⟨rfl, rfl, rfl, size_sortWorldK_c plV 2 w g 0 m d os, fun k hk hne => by
    have hkg : g ≠ k := fun e => hne (by rw [e])
    unfold sortWorldK grow putRowK
    simp only
    rw [Array.getElem?_append_left (by simp [Sort.ahead]; exact hk)]
    simp [putRow, mapBlock, Array.getElem?_modify, hkg, Sort.ahead]⟩
def ltP (p q : Pl) : Bool := ltOf cmpP p q
theorem ltP_iff (p q : Pl) : ltOf cmpP p q = true ↔ p.1 < q.1 ∨ p.1 = q.1 ∧ p.2 < q.2 := by
  unfold ltOf
  rw [decide_eq_true_eq, cmpP_neg]
theorem ltP_false (p q : Pl) : ltOf cmpP p q = false ↔ ¬ (p.1 < q.1 ∨ p.1 = q.1 ∧ p.2 < q.2) := by
  rw [← ltP_iff]; simp
theorem swoP : SWO (ltOf cmpP) where
  irrefl x := by rw [ltP_false]; omega
  trans x y z h1 h2 := by rw [ltP_iff] at *; omega
  ntrans x y z h1 h2 := by rw [ltP_false] at *; omega
/-- Places in their order. -/
def sortP (l : List Pl) : List Pl := l.mergeSort fun x y => !(ltOf cmpP) y x
theorem g_sortP (base g n c : Nat) (l : List Pl) (w : World) (h : SOwn placeE 106 w base (.slice (some ⟨g, 0, none⟩) n c) n l) (hn : n ≤ 1000000) :
    Calls Tryz.prog 108 #[.slice (some ⟨g, 0, none⟩) n c, .func (.func 78) #[] #[]] w fun e w' => e = .returned (.tuple #[]) ∧ SRd placeE w' (some ⟨g, 0, none⟩) (sortP l) ∧ w.grownBy w' (some g) := by
  have hl := SOwn.len h
  have eg : ∀ args w, (callFunc 78 args).run Tryz.prog w = .ok (.enter 78 args) w := enters_of Tryz.func78 (by kernel_rfl) rfl
  have hblk : g < w.heap.size := (SOwn.block h g rfl).2
  have hH := holdsK_of h
  have hcmp : CmpLays Tryz.prog 78 #[] plV 2 cmpP g 0 l.toArray.size w := fun m os dk hs x y => by
    refine (g_byToken x y _).mono ?_
    rintro e w' ⟨rfl, q, os', rfl⟩
    exact ⟨rfl, q, os', rfl⟩
  have hC := AnyQ.slices_SortFunc_total Tryz.laysSort 2 Tryz.isAgg106 Tryz.sizeOf106 plV (fun _ => rfl) placeE.one cmpP swoP 78 #[] g 0 c l.toArray w eg hcmp hH hblk (by simp [hl]; omega) (fun x y h1 h2 => by
    rw [ltP_false] at h1 h2
    obtain ⟨a, b⟩ := x
    obtain ⟨c, d⟩ := y
    simp only [Prod.mk.injEq] at *
    omega)
  rw [List.size_toArray, hl] at hC
  refine hC.mono ?_
  rintro e w' ⟨rfl, m, os, rfl⟩
  refine ⟨rfl, ?_, gb_sortK w g m _ os⟩
  have := holdsK_sortWorldK_c plV 2 w g 0 l.toArray (l.mergeSort fun x y => !(ltOf cmpP) y x).toArray m os hH hblk (by simp)
  exact srd_of_holdsK this
/-- The places of the active members, as they stand in the ring. -/
def plcM (m : Mem) : List Pl := if m.2.1 = 2 then m.2.2.map (fun t => (t, m.1)) else []
def plc (ms : List Mem) : List Pl := ms.flatMap plcM
theorem plc_take {ms : List Mem} {i : Nat} {m : Mem} (h : ms[i]? = some m) : plc (ms.take (i + 1)) = plc (ms.take i) ++ plcM m := by
  unfold plc
  rw [List.take_add_one, h]
  simp
theorem plcM_len (m : Mem) : (plcM m).length ≤ m.2.2.length := by
  unfold plcM; split <;> simp
theorem plc_len : ∀ (ms : List Mem), (∀ m ∈ ms, m.2.2.length ≤ 64) → (plc ms).length ≤ 64 * ms.length
  | [], _ => by simp [plc]
  | m :: r, h => by
    have h1 := plcM_len m
    have h2 := h m (by simp)
    have h3 := plc_len r (fun x hx => h x (by simp [hx]))
    unfold plc at h3 ⊢
    rw [List.flatMap_cons, List.length_append, List.length_cons]
    omega
end Go.Proofs.YtboamjhlaehoaaaGreat

/- Rings: activePlaces. -/
namespace Go.Proofs.YtboamjhlaehoaaaGreat
open Go.RowKit Go.Sort
set_option linter.unusedVariables false
set_option maxRecDepth 20000

/-- Where activePlaces stands. -/
structure PlAt (w wr : World) (N : Nat) (a : Option Addr) (n c : Nat) (l : List Pl) : Prop where
  own : SOwn placeE 106 wr N (.slice a n c) n l
  gb : w.grownBy wr none
theorem PlAt.grown {w wr wx : World} {N n c : Nat} {a : Option Addr} {l : List Pl} (h : PlAt w wr N a n c l) (hg : wr.grownBy wx none) : PlAt w wx N a n c l := ⟨SOwn.kept h.own hg (Classical.em _), h.gb.trans hg⟩
set_option maxHeartbeats 4000000 in
theorem g_places (ms : List Mem) (raw : List MRow) (a : Option Addr) (L c : Nat) (w : World) (hx : MsRd w a ms raw) (hL : ms.length = L) (hz : L ≤ 1000) (hz2 : ∀ s ∈ ms, s.2.2.length ≤ 64) :
    Calls Tryz.prog 76 #[.slice a L c] w fun e w' => ∃ a' n' c', e = .returned (.slice a' n' c') ∧ n' = (sortP (plc ms)).length ∧ n' ≤ 64000 ∧ n' ≤ c' ∧ (a' = none → c' = 0) ∧ (∀ x, a' = some x → x.off = 0 ∧ x.spot = none) ∧ c' ≤ maxLen ∧ SRd placeE w' a' (sortP (plc ms)) ∧ w.grownBy w' none := by
  have HX : Hid (MsRd w a ms raw) := hx
  have HL : Hid (ms.length = L) := hL
  have HZ : Hid (∀ s ∈ ms, s.2.2.length ≤ 64) := hz2
  obtain ⟨N, eN⟩ : ∃ N, w.heap.size = N := ⟨_, rfl⟩
  have EN : Hid (w.heap.size = N) := eN
  have H0 : Hid (PlAt w w N none 0 0 (plc (ms.take 0))) := ⟨SOwn.nil 106 w N, World.grownBy.refl _ _⟩
  have HLEN : Hid (∀ i, (plc (ms.take i)).length ≤ 64000) := fun i => by
    have := plc_len (ms.take i) (fun m hm => hz2 m (List.mem_of_mem_take hm))
    rw [List.length_take] at this
    show _ ≤ _
    omega
  have HFIN : Hid (∀ a1 n1 c1 wr, PlAt w wr N a1 n1 c1 (plc ms) → Calls Tryz.prog 108 #[.slice a1 n1 c1, .func (.func 78) #[] #[]] wr fun e w' => e = .returned (.tuple #[]) ∧ Hid (n1 = (sortP (plc ms)).length ∧ n1 ≤ 64000 ∧ n1 ≤ c1 ∧ (a1 = none → c1 = 0) ∧ (∀ x, a1 = some x → x.off = 0 ∧ x.spot = none) ∧ c1 ≤ maxLen ∧ SRd placeE w' a1 (sortP (plc ms)) ∧ w.grownBy w' none)) := by
    intro a1 n1 c1 wr h
    have hl := SOwn.len h.own
    have hcap := sown_cap h.own
    have hl2 : (sortP (plc ms)).length = n1 := by simp [sortP, hl]
    have hle : n1 ≤ 64000 := by
      have := HLEN.out L
      rw [List.take_of_length_le (by omega)] at this
      omega
    have hform : (∀ x, a1 = some x → x.off = 0 ∧ x.spot = none) ∧ c1 ≤ maxLen := by
      rcases h.own.2 with ⟨h', h0⟩ | ⟨g, cap, cur, h', h1, h2, h3, h4, _⟩
      · simp only [Value.slice.injEq] at h'
        obtain ⟨rfl, _, rfl⟩ := h'
        exact ⟨fun x e => (by cases e), (by unfold maxLen; omega)⟩
      · simp only [Value.slice.injEq] at h'
        obtain ⟨rfl, _, rfl⟩ := h'
        exact ⟨fun x e => (by cases e; exact ⟨rfl, rfl⟩), h4⟩
    by_cases h0 : n1 = 0
    · subst h0
      refine (AnyF.slices_SortFunc_none Tryz.laysSort a1 c1 (.func (.func 78) #[] #[]) wr).mono ?_
      rintro e w' ⟨rfl, rfl⟩
      exact ⟨rfl, hl2.symm, hle, hcap.1, hcap.2, hform.1, hform.2, .inl (List.eq_nil_of_length_eq_zero hl2), h.gb⟩
    · obtain ⟨g, c9, e9, h9⟩ := sown_some h.own (fun e => by simp only [Value.slice.injEq] at e; omega)
      simp only [Value.slice.injEq] at e9
      obtain ⟨rfl, _, rfl⟩ := e9
      refine (g_sortP N g n1 c1 (plc ms) wr h.own (by omega)).mono ?_
      rintro e w' ⟨rfl, h1, h2⟩
      exact ⟨rfl, hl2.symm, hle, hcap.1, hcap.2, hform.1, hform.2, h1, gb_trans h.gb h2 (fun k hk => .inl (by cases hk; have := (SOwn.block h.own g rfl).1; omega))⟩
  clear hx hL hz2 eN
  go_enter Tryz.func76, Tryz.ntmps76
  go_wp2
  go_loopw [3, 10] (fun t3 t10 wr => ∃ (i n : Nat) (a1 : Option Addr) (c1 : Nat), i ≤ L ∧ t10 = .int .i64 i ∧ t3 = .slice a1 n c1 ∧ PlAt w wr N a1 n c1 (plc (ms.take i))) (fun _ t10 _ => L - (intOf t10).toNat)
  case atStart => exact ⟨0, 0, none, 0, Nat.zero_le _, rfl, rfl, H0.out⟩
  case round =>
    obtain ⟨i, n, a1, c1, hi, rfl, rfl, hpl⟩ := hrel
    have HPL : Hid (PlAt w wr N a1 n c1 (plc (ms.take i))) := hpl
    clear hpl
    by_cases hlt : i < L
    · have hki : (i : Int) < (L : Int) := by omega
      have hl := HL.out
      obtain ⟨⟨i1, s1, t1⟩, ex⟩ : ∃ x, ms[i]? = some x := ⟨_, List.getElem?_eq_getElem (by omega)⟩
      obtain ⟨ba, off, ta, tc, rfl, a0, a1', a2, rt, hnil⟩ := (HX.out.grown HPL.out.gb).cells ex
      have z1 := HZ.out _ (List.mem_of_getElem? ex)
      simp only at a0 a1' a2 rt z1
      obtain ⟨n1, en1⟩ : ∃ n1, t1.length = n1 := ⟨_, rfl⟩
      rw [en1] at a2 z1
      have EN1 : Hid (t1.length = n1) := en1
      have HPT : Hid (plc (ms.take (i + 1)) = plc (ms.take i) ++ plcM (i1, s1, t1)) := plc_take ex
      have HPM : Hid (plcM (i1, s1, t1) = if s1 = 2 then t1.map (fun t => (t, i1)) else []) := rfl
      have HLN : Hid ((plc (ms.take (i + 1))).length ≤ 64000) := HLEN.out (i + 1)
      have g5 := World.grownBy_alloc wr (.cells #[.int .i64 i1, .int .i64 s1, .slice ta n1 tc] 61) none
      obtain ⟨d0, d1, d2⟩ := cell3 (heap_alloc_new wr (.cells #[.int .i64 i1, .int .i64 s1, .slice ta n1 tc] 61))
      have HB5 : Hid ((wr.alloc (.cells #[.int .i64 i1, .int .i64 s1, .slice ta n1 tc] 61)).heap[wr.heap.size]? = some (.cells #[.int .i64 i1, .int .i64 s1, .slice ta n1 tc] 61 (0, 0))) := heap_alloc_new wr _
      have HP5 : Hid (PlAt w (wr.alloc (.cells #[.int .i64 i1, .int .i64 s1, .slice ta n1 tc] 61)) N a1 n c1 (plc (ms.take i))) := HPL.out.grown g5
      have HRT : Hid (SRd wordE w ta t1) := by
        obtain ⟨b', o', ta', tc', e', b0, b1, b2, brt, _⟩ := HX.out.cells ex
        cases e'
        have := (HPL.out.gb.cell b2 (by simp))
        rw [show (i1, s1, t1).2.2.length = n1 from en1, a2] at this
        cases this
        exact brt
      clear ex rt en1 hnil hl g5
      by_cases hs : s1 = 2
      · subst hs
        have hb : ((2 : Int) != 2) = false := by simp
        go_wp2_with fail
        generalize hW5 : wr.alloc (.cells #[.int .i64 i1, .int .i64 2, .slice ta n1 tc] 61) = W5 at HB5 HP5 d0 d1 d2 ⊢
        clear hW5
        obtain ⟨B, eB⟩ : ∃ B, wr.heap.size = B := ⟨_, rfl⟩
        rw [eB] at HB5 d0 d1 d2 ⊢
        clear eB
        go_wp2
        go_loopw [3, 20] (fun t3 t20 wx => ∃ (k m : Nat) (a2 : Option Addr) (c2 : Nat), k ≤ n1 ∧ t20 = .int .i64 k ∧ t3 = .slice a2 m c2 ∧ PlAt w wx N a2 m c2 (plc (ms.take i) ++ (t1.take k).map (fun t => (t, i1))) ∧ wx.heap[B]? = some (.cells #[.int .i64 i1, .int .i64 2, .slice ta n1 tc] 61 (0, 0))) (fun _ t20 _ => n1 - (intOf t20).toNat)
        case atStart => exact ⟨0, n, a1, c1, Nat.zero_le _, rfl, rfl, by simpa using HP5.out, HB5.out⟩
        case round =>
          obtain ⟨k, m, a3, c3, hk, rfl, rfl, hp3, hb3⟩ := hrel
          have HP3 : Hid (PlAt w wr N a3 m c3 (plc (ms.take i) ++ (t1.take k).map (fun t => (t, i1)))) := hp3
          have HB3 : Hid (wr.heap[B]? = some (.cells #[.int .i64 i1, .int .i64 2, .slice ta n1 tc] 61 (0, 0))) := hb3
          obtain ⟨e0, e1, e2⟩ := cell3 hb3
          clear hp3 hb3
          by_cases hk2 : k < n1
          · have hkk : (k : Int) < (n1 : Int) := by omega
            have hl1 := EN1.out
            obtain ⟨x, ek⟩ : ∃ x, t1[k]? = some x := ⟨_, List.getElem?_eq_getElem (by omega)⟩
            obtain ⟨bt, ot, rfl, hct⟩ := (HRT.out.grown HP3.out.gb (by simp)).at (by omega)
            have f0 : wr.cell? ⟨bt, ot + k, none⟩ = some (.int .u32 x) := by have := hct k _ 0 _ ek rfl; simpa [wordE] using this
            have HTK : Hid ((t1.take (k + 1)).map (fun t => (t, i1)) = (t1.take k).map (fun t => (t, i1)) ++ [(x, i1)]) := by show _ = _; rw [List.take_add_one, ek]; simp
            have HMN : Hid (m ≤ 64000) := by
              have h1 := SOwn.len HP3.out.own
              rw [List.length_append, List.length_map, List.length_take] at h1
              have h2 := HLN.out
              rw [HPT.out, HPM.out, if_pos trivial, List.length_append, List.length_map] at h2
              show _ ≤ _
              omega
            have ga := World.grownBy_alloc wr (.cells #[.int .u32 x, .int .i64 i1] 106) none
            have HOA : Hid (SOwn placeE 106 (wr.alloc (.cells #[.int .u32 x, .int .i64 i1] 106)) N (.slice a3 m c3) m (plc (ms.take i) ++ (t1.take k).map (fun t => (t, i1)))) := SOwn.kept HP3.out.own ga (Classical.em _)
            have HRA : Hid (SRd placeE (wr.alloc (.cells #[.int .u32 x, .int .i64 i1] 106)) (some ⟨wr.heap.size, 0, none⟩) [(x, i1)]) := srd_lit placeE 106 wr [(x, i1)]
            have HSA : Hid (N ≤ (wr.alloc (.cells #[.int .u32 x, .int .i64 i1] 106)).heap.size) := by
              show _ ≤ _
              rw [size_alloc]
              have := HP3.out.gb.size
              have := EN.out
              omega
            have HNX : Hid (∀ v7 w7, SOwn placeE 106 w7 N v7 (m + 1) (plc (ms.take i) ++ (t1.take k).map (fun t => (t, i1)) ++ [(x, i1)]) → (wr.alloc (.cells #[.int .u32 x, .int .i64 i1] 106)).grownBy w7 (Value.slice a3 m c3).ownBlock → Hid (∃ a7 c7, v7 = .slice a7 (m + 1) c7 ∧ PlAt w w7 N a7 (m + 1) c7 (plc (ms.take i) ++ (t1.take (k + 1)).map (fun t => (t, i1))) ∧ w7.heap[B]? = some (.cells #[.int .i64 i1, .int .i64 2, .slice (some ⟨bt, ot, none⟩) n1 tc] 61 (0, 0)))) := by
              intro v7 w7 ho7 hg7
              obtain ⟨a7, c7, rfl⟩ := sown_slice ho7
              refine ⟨a7, c7, rfl, ⟨by rw [HTK.out, ← List.append_assoc]; exact ho7, ?_⟩, ?_⟩
              · refine gb_trans (HP3.out.gb.trans ga) hg7 (fun j hj => .inl ?_)
                have := (SOwn.block HP3.out.own j hj).1
                have := EN.out
                omega
              · have hB4 : (wr.alloc (.cells #[.int .u32 x, .int .i64 i1] 106)).heap[B]? = some (.cells #[.int .i64 i1, .int .i64 2, .slice (some ⟨bt, ot, none⟩) n1 tc] 61 (0, 0)) := by
                  rw [ga.block B (Array.getElem?_eq_some_iff.1 HB3.out).1 (by simp)]; exact HB3.out
                rw [hg7.block B (Array.getElem?_eq_some_iff.1 hB4).1 (fun e => ?_)]
                · exact hB4
                · cases a3 with
                  | none => simp [Value.ownBlock] at e
                  | some y =>
                    have e2 : y.block = B := by simpa [Value.ownBlock] using e.symm
                    exact Typed.ne (sown_typed HOA.out) ⟨_, hB4⟩ (by decide) e2
            clear ek hct hl1 ga
            go_wp2_with (at_builtin; refine wpList_append_at placeT rfl (.tmp 24) (.tmp 29) rfl N (.slice a3 m c3) m _ rfl HOA.out ⟨wr.heap.size, 0, none⟩ [(x, i1)] 1 1 rfl rfl HRA.out (by have := HMN.out; omega) (by have := HMN.out; unfold maxLen; omega) HSA.out ?_; intro v7 w7 ho7 hg7 hn7 hl7; have HR7 := HNX.out v7 w7 ho7 hg7; clear ho7 hg7 hn7 hl7)
            go_roundw
            case rel =>
              obtain ⟨a7, c7, e7, h7, h8⟩ := HR7.out
              exact ⟨k + 1, m + 1, a7, c7, by omega, by go_num, e7, h7, h8⟩
            case measure => simp [intOf]; omega
          · obtain rfl : k = n1 := by omega
            have HTT : Hid (plc (ms.take i) ++ (t1.take k).map (fun t => (t, i1)) = plc (ms.take (i + 1))) := by
              show _ = _
              rw [HPT.out, HPM.out, if_pos trivial, show t1.take k = t1 from List.take_of_length_le (by have := EN1.out; omega)]
            go_wp2
            go_roundw
            case rel => exact ⟨i + 1, m, a3, c3, by omega, by go_num, rfl, by rw [← HTT.out]; exact HP3.out⟩
            case measure => simp [intOf]; omega
      · have hb : (s1 != 2) = true := by simpa using hs
        have HTT : Hid (plc (ms.take i) = plc (ms.take (i + 1))) := by
          show _ = _
          rw [HPT.out, HPM.out, if_neg hs, List.append_nil]
        clear hs
        go_wp2
        go_roundw
        case rel => exact ⟨i + 1, n, a1, c1, by omega, by go_num, rfl, by rw [← HTT.out]; exact HP5.out⟩
        case measure => simp [intOf]; omega
    · obtain rfl : i = L := by omega
      have HC := HFIN.out a1 n c1 wr (by have := HPL.out; rw [List.take_of_length_le (by have := HL.out; omega)] at this; exact this)
      go_wp2_with fail
      refine HC.mono ?_
      rintro e w2 ⟨rfl, H2⟩
      go_wp2
      go_ret
      exact ⟨a1, n, c1, rfl, H2.out⟩
end Go.Proofs.YtboamjhlaehoaaaGreat

/- Rings: slices.Concat of places. -/
namespace Go.Proofs.YtboamjhlaehoaaaGreat
open Go.RowKit
set_option linter.unusedVariables false
set_option maxRecDepth 20000

theorem zero_cellsP (n : Nat) : (Builtin.zeroCells (Value.agg #[.int .u32 0, .int .i64 0]).cells n).size = n * 2 := by
  rw [size_zeroCells]; rfl

set_option maxHeartbeats 400000 in
theorem g_growP (n : Nat) (w : World) (hn : n ≤ 1000000) :
    Calls Tryz.prog 111 #[.slice none 0 0, .int .i64 n] w fun e w' => ∃ v, e = .returned v ∧ SOwn placeE 106 w' w.heap.size v 0 [] ∧ w.grownBy w' none := by
  obtain ⟨i0, hi, hz0, hz1, hz2⟩ := info_part info106
  by_cases h0 : 0 < n
  · have hrz := fun ty => Lib.run_append_nil_zeros (P := Tryz.prog) w 102 3 ty 106 i0 (.agg #[.int .u32 0, .int .i64 0]) .i64 .i64 Tryz.underlying102 Tryz.underlying3 hi hz0 n h0 (by omega) (by omega) (by rw [hz2]; omega)
    have hGn : n ≤ grownCap w n 0 106 := grownCap_ge w _ _ _
    have hG63 := grownCap_le_maxLen w n 0 106 (by unfold maxLen; omega)
    obtain ⟨G, hG⟩ : ∃ G, G = grownCap w n 0 106 := ⟨_, rfl⟩
    rw [← hG] at hrz hGn hG63
    have HO : Hid (SOwn placeE 106 (w.drew.alloc (.cells (Builtin.zeroCells (Value.agg #[.int .u32 0, .int .i64 0]).cells n ++ Builtin.zeroCells (Value.agg #[.int .u32 0, .int .i64 0]).cells (G - n)) 106)) w.heap.size (.slice (some ⟨w.heap.size, 0, none⟩) 0 G) 0 []) :=
      World.ownsRow_made (e := 106) (size := 2) w.drew _ G (Nat.le_refl _) hG63 (by rw [Array.size_append, zero_cellsP, zero_cellsP]; omega)
    have HG : Hid (w.grownBy (w.drew.alloc (.cells (Builtin.zeroCells (Value.agg #[.int .u32 0, .int .i64 0]).cells n ++ Builtin.zeroCells (Value.agg #[.int .u32 0, .int .i64 0]).cells (G - n)) 106)) none) := (gb_drew (World.grownBy.refl w none)).trans (World.grownBy_alloc w.drew _ none)
    generalize Builtin.zeroCells (Value.agg #[.int .u32 0, .int .i64 0]).cells n ++ Builtin.zeroCells (Value.agg #[.int .u32 0, .int .i64 0]).cells (G - n) = Z at hrz HO HG
    have hGm : (G : Int) ≤ 9223372036854775807 := by unfold maxLen at hG63; omega
    clear hG hz0 hz1 hz2 hi hG63
    go_enter Tryz.func111, Tryz.ntmps111
    go_wp2_with (at_builtin; refine Lib.wpList_append_run _ rfl _ _ _ _ rfl _ _ rfl rfl _ _ (hrz _) ?_)
    go_ret
    exact ⟨_, rfl, HO.out, HG.out⟩
  · obtain rfl : n = 0 := by omega
    go_enter Tryz.func111, Tryz.ntmps111
    go_wp2
    go_ret
    exact ⟨_, rfl, SOwn.nil 106 _ _, World.grownBy.refl _ _⟩

/-- One of the slices that are joinedP. -/
structure PieceP where
  a : Option Addr
  n : Nat
  c : Nat
  zs : List Pl
def PieceP.val (p : PieceP) : Value := .slice p.a p.n p.c
def PieceP.ok (w : World) (p : PieceP) : Prop := SRd placeE w p.a p.zs ∧ p.zs.length = p.n ∧ (p.a = none → p.c = 0)
def totalP (ps : List PieceP) : Nat := (ps.map (·.n)).sum
def joinedP (ps : List PieceP) : List Pl := ps.flatMap (·.zs)
theorem totalP_next {ps : List PieceP} {i : Nat} {p : PieceP} (h : ps[i]? = some p) : totalP (ps.take (i + 1)) = totalP (ps.take i) + p.n := by
  unfold totalP
  rw [List.take_add_one, h]
  simp
theorem joinedP_next {ps : List PieceP} {i : Nat} {p : PieceP} (h : ps[i]? = some p) : joinedP (ps.take (i + 1)) = joinedP (ps.take i) ++ p.zs := by
  unfold joinedP
  rw [List.take_add_one, h]
  simp
theorem totalP_le (ps : List PieceP) (i : Nat) : totalP (ps.take i) ≤ totalP ps := by
  have h : totalP ps = totalP (ps.take i) + totalP (ps.drop i) := by
    unfold totalP
    rw [← List.sum_append, ← List.map_append, List.take_append_drop]
  omega

set_option maxHeartbeats 1000000 in
theorem g_concatP (b : Nat) (ps : List PieceP) (k : Nat) (w : World) (hk : ps.length = k) (hk8 : k ≤ 8) (hcells : ∀ i p, ps[i]? = some p → w.cell? ⟨b, i, none⟩ = some p.val) (hok : ∀ p ∈ ps, p.ok w) (hsz : totalP ps ≤ 1000000) :
    Calls Tryz.prog 80 #[.slice (some ⟨b, 0, none⟩) k k] w fun e w' => ∃ a c, e = .returned (.slice a (totalP ps) c) ∧ SOwn placeE 106 w' w.heap.size (.slice a (totalP ps) c) (totalP ps) (joinedP ps) ∧ w.grownBy w' none := by
  have HK : Hid (ps.length = k) := hk
  have HC : Hid (∀ i p, ps[i]? = some p → w.cell? ⟨b, i, none⟩ = some p.val) := hcells
  have HO : Hid (∀ p ∈ ps, p.ok w) := hok
  clear hk hcells hok
  go_enter Tryz.func80, Tryz.ntmps80
  go_wp2
  go_loop [3, 11] (fun t3 t11 => ∃ (i : Nat), i ≤ k ∧ t11 = .int .i64 i ∧ t3 = .int .i64 (totalP (ps.take i) : Nat)) (fun _ t11 => k - (intOf t11).toNat)
  case atStart => exact ⟨0, Nat.zero_le _, rfl, by simp [totalP]⟩
  case round =>
    obtain ⟨i, hi, rfl, rfl⟩ := hrel
    by_cases hlt : i < k
    · obtain ⟨p, hp⟩ : ∃ p, ps[i]? = some p := ⟨_, List.getElem?_eq_getElem (by have := HK.out; omega)⟩
      have hcell := HC.out i p hp
      unfold PieceP.val at hcell
      have HT : Hid (totalP (ps.take (i + 1)) = totalP (ps.take i) + p.n) := totalP_next hp
      have htl := totalP_le ps (i + 1)
      rw [HT.out] at htl
      generalize totalP (ps.take i) = S at HT htl ⊢
      clear hp
      obtain ⟨pa, pn, pc, pz⟩ := p
      simp only at hcell HT htl
      go_wp2
      go_round
      case rel => exact ⟨i + 1, by omega, by go_num, by rw [HT.out]; go_num⟩
      case measure => simp [intOf]; omega
    · obtain rfl : i = k := by omega
      have HT : Hid (totalP (ps.take i) = totalP ps) := by
        show _ = _
        rw [List.take_of_length_le (by have := HK.out; omega)]
      rw [HT.out]
      have HGR := g_growP (totalP ps) w hsz
      go_wp2_with fail
      refine HGR.mono ?_
      rintro e w1 ⟨v1, rfl, ho1, hg1⟩
      have HO1 : Hid (SOwn placeE 106 w1 w.heap.size v1 0 []) := ho1
      have HG1 : Hid (w.grownBy w1 none) := hg1
      clear ho1 hg1
      go_wp2
      go_loopw [6, 27] (fun t6 t27 wr => ∃ (m : Nat), m ≤ i ∧ t27 = .int .i64 m ∧ SOwn placeE 106 wr w.heap.size t6 (totalP (ps.take m)) (joinedP (ps.take m)) ∧ w.grownBy wr none) (fun _ t27 _ => i - (intOf t27).toNat)
      case atStart => exact ⟨0, Nat.zero_le _, rfl, by simpa [totalP, joinedP] using HO1.out, HG1.out⟩
      case round =>
        obtain ⟨m, hm, rfl, ho, hg⟩ := hrel
        have HV : Hid (SOwn placeE 106 wr w.heap.size u6 (totalP (ps.take m)) (joinedP (ps.take m))) := ho
        have HG : Hid (w.grownBy wr none) := hg
        clear ho hg HO1 HG1
        by_cases hlt2 : m < i
        · obtain ⟨p, hp⟩ : ∃ p, ps[m]? = some p := ⟨_, List.getElem?_eq_getElem (by have := HK.out; omega)⟩
          have hcell := HG.out.cell (HC.out m p hp) (by simp)
          have hpo := HO.out p (List.mem_of_getElem? hp)
          unfold PieceP.val at hcell
          unfold PieceP.ok at hpo
          have HR : Hid (SRd placeE wr p.a p.zs) := hpo.1.grown HG.out (by simp)
          have HL : Hid (p.zs.length = p.n) := hpo.2.1
          have HNil : Hid (p.a = none → p.c = 0) := hpo.2.2
          have HT : Hid (totalP (ps.take (m + 1)) = totalP (ps.take m) + p.n) := totalP_next hp
          have HJ : Hid (joinedP (ps.take (m + 1)) = joinedP (ps.take m) ++ p.zs) := joinedP_next hp
          have htl := totalP_le ps (m + 1)
          rw [HT.out] at htl
          have HW : Hid (w.heap.size ≤ wr.heap.size) := HG.out.size
          have HGo : Hid (∀ w2, wr.grownBy w2 u6.ownBlock → w.grownBy w2 none) := fun w2 h => gb_trans HG.out h (fun q hq => .inl (SOwn.block HV.out q hq).1)
          generalize totalP (ps.take m) = S at HT HV htl ⊢
          generalize joinedP (ps.take m) = J at HJ HV ⊢
          clear hp hpo
          obtain ⟨pa, pn, pc, pz⟩ := p
          simp only at hcell HR HL HNil HT HJ htl
          go_wp2_with (at_builtin; refine wpList_append_s placeT rfl (.tmp 31) (.tmp 32) rfl w.heap.size u6 S J rfl HV.out pa pz pn pc rfl HL.out HR.out HNil.out (by omega) (by unfold maxLen; omega) HW.out ?_; intro v2 w2 ho2 hg2 hn2)
          go_roundw
          case rel => exact ⟨m + 1, by omega, by go_num, by rw [HT.out, HJ.out]; exact ho2, HGo.out _ hg2⟩
          case measure => simp [intOf]; omega
        · obtain rfl : m = i := by omega
          have HV2 : Hid (∃ a c, u6 = .slice a (totalP ps) c ∧ SOwn placeE 106 wr w.heap.size (.slice a (totalP ps) c) (totalP ps) (joinedP ps)) := by
            have h := HV.out
            rw [List.take_of_length_le (by have := HK.out; omega)] at h
            obtain ⟨a, c, e⟩ := sown_slice h
            exact ⟨a, c, e, by rw [← e]; exact h⟩
          clear HV
          go_wp2
          go_ret
          obtain ⟨a, c, e, h⟩ := HV2.out
          exact ⟨a, c, by rw [e]; rfl, h, HG.out⟩
end Go.Proofs.YtboamjhlaehoaaaGreat

