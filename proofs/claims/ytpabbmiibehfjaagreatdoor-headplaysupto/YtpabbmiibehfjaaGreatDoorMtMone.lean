/- What one matcher says of a value. -/
import Derived.Test.YtpabbmiibehfjaaGreatDoorMtMsay
namespace Go.Proofs.YtpabbmiibehfjaaGreatDoor.Mt
open Go.RowKit
set_option linter.unusedVariables false
set_option maxRecDepth 20000

theorem meth_like (a b : Value) (w : World) : (method 204 117 (.agg #[a, b]) "tidewrack/match.like").run Tryz.prog w = .ok (97, a) w := by kernel_rfl
set_option maxHeartbeats 1000000 in
theorem kind_one (n v x : ByteArray) (R : Bool) (w : World) (hv : v.size ≤ 2147483648) (hx : x.size ≤ 2147483648) (hm : Mx w) (hR : decide (x = v) = R) :
    Calls Tryz.prog 60 #[.agg #[.int .i64 1, .string n, .string v], .string x] w fun e w' => e = .returned (.bool R) ∧ w.grownBy w' none := by
  have HQ : Hid (∀ w, Calls Tryz.prog 73 #[.int .i64 1] w fun e w' => e = .returned (.func (.func 95) #[] #[]) ∧ w.grownBy w' none) := m_question 1
  have HMd : Hid (∀ w', w.grownBy w' none → Calls Tryz.prog 74 #[.agg #[.int .i64 1, .string n, .string v]] w' fun e w'' => w'.grownBy w'' none ∧ e = .returned (.agg #[.slice none 0 0, .string v])) := fun w' hg => (m_made 1 n v w' hv (hm.grown hg)).mono fun e w'' ⟨h1, _, h3⟩ => ⟨h1, h3 (by decide)⟩
  have f1 := neq_func
  have f3 := meth_like
  have HL : Hid (∀ w', Calls Tryz.prog 95 #[.agg #[.slice none 0 0, .string v], .string x] w' fun e w'' => e = .returned (.bool R) ∧ w'.grownBy w'' none) := fun w' => by rw [← hR]; exact m_is _ _ _ v x w'
  have HB : Hid ((w.alloc (.cells #[.int .i64 1, .string n, .string v] 94)).heap[w.heap.size]? = some (.cells #[.int .i64 1, .string n, .string v] 94)) := heap_alloc_new w _
  clear hv hx hm hR
  go_enter Tryz.func60, Tryz.ntmps60
  go_wp2_with fail
  refine (HQ.out _).mono ?_
  rintro e w1 ⟨rfl, hg⟩
  have HG : Hid (w.grownBy w1 none) := (World.grownBy_alloc w _ none).trans hg
  have hb1 := (hg.block w.heap.size (by simp) (by simp)).trans HB.out
  have c0 : w1.cell? ⟨w.heap.size, 0, none⟩ = some (.int .i64 1) := by rw [cell_of_row w1 w.heap.size 0 _ _ _ hb1]; rfl
  have c1 : w1.cell? ⟨w.heap.size, 1, none⟩ = some (.string n) := by rw [cell_of_row w1 w.heap.size 1 _ _ _ hb1]; rfl
  have c2 : w1.cell? ⟨w.heap.size, 2, none⟩ = some (.string v) := by rw [cell_of_row w1 w.heap.size 2 _ _ _ hb1]; rfl
  clear hg hb1 HQ
  go_wp2_with fail
  refine (HMd.out _ HG.out).mono ?_
  rintro e w2 ⟨hg2, rfl⟩
  have HG2 : Hid (w.grownBy w2 none) := HG.out.trans hg2
  clear hg2 HMd
  go_wp2_with fail
  refine (HL.out _).mono ?_
  rintro e w3 ⟨rfl, hg3⟩
  have HG3 : Hid (w.grownBy w3 none) := HG2.out.trans hg3
  clear hg3
  go_wp2
  go_ret
  exact ⟨rfl, HG3.out⟩
set_option maxHeartbeats 1000000 in
theorem kind_two (n v x : ByteArray) (R : Bool) (w : World) (hv : v.size ≤ 2147483648) (hx : x.size ≤ 2147483648) (hm : Mx w) (hR : (!decide (x = v)) = R) :
    Calls Tryz.prog 60 #[.agg #[.int .i64 2, .string n, .string v], .string x] w fun e w' => e = .returned (.bool R) ∧ w.grownBy w' none := by
  have HQ : Hid (∀ w, Calls Tryz.prog 73 #[.int .i64 2] w fun e w' => e = .returned (.func (.func 96) #[] #[]) ∧ w.grownBy w' none) := m_question 2
  have HMd : Hid (∀ w', w.grownBy w' none → Calls Tryz.prog 74 #[.agg #[.int .i64 2, .string n, .string v]] w' fun e w'' => w'.grownBy w'' none ∧ e = .returned (.agg #[.slice none 0 0, .string v])) := fun w' hg => (m_made 2 n v w' hv (hm.grown hg)).mono fun e w'' ⟨h1, _, h3⟩ => ⟨h1, h3 (by decide)⟩
  have f1 := neq_func
  have f3 := meth_like
  have HL : Hid (∀ w', Calls Tryz.prog 96 #[.agg #[.slice none 0 0, .string v], .string x] w' fun e w'' => e = .returned (.bool R) ∧ w'.grownBy w'' none) := fun w' => by rw [← hR]; exact m_isNot _ _ _ v x w'
  have HB : Hid ((w.alloc (.cells #[.int .i64 2, .string n, .string v] 94)).heap[w.heap.size]? = some (.cells #[.int .i64 2, .string n, .string v] 94)) := heap_alloc_new w _
  clear hv hx hm hR
  go_enter Tryz.func60, Tryz.ntmps60
  go_wp2_with fail
  refine (HQ.out _).mono ?_
  rintro e w1 ⟨rfl, hg⟩
  have HG : Hid (w.grownBy w1 none) := (World.grownBy_alloc w _ none).trans hg
  have hb1 := (hg.block w.heap.size (by simp) (by simp)).trans HB.out
  have c0 : w1.cell? ⟨w.heap.size, 0, none⟩ = some (.int .i64 2) := by rw [cell_of_row w1 w.heap.size 0 _ _ _ hb1]; rfl
  have c1 : w1.cell? ⟨w.heap.size, 1, none⟩ = some (.string n) := by rw [cell_of_row w1 w.heap.size 1 _ _ _ hb1]; rfl
  have c2 : w1.cell? ⟨w.heap.size, 2, none⟩ = some (.string v) := by rw [cell_of_row w1 w.heap.size 2 _ _ _ hb1]; rfl
  clear hg hb1 HQ
  go_wp2_with fail
  refine (HMd.out _ HG.out).mono ?_
  rintro e w2 ⟨hg2, rfl⟩
  have HG2 : Hid (w.grownBy w2 none) := HG.out.trans hg2
  clear hg2 HMd
  go_wp2_with fail
  refine (HL.out _).mono ?_
  rintro e w3 ⟨rfl, hg3⟩
  have HG3 : Hid (w.grownBy w3 none) := HG2.out.trans hg3
  clear hg3
  go_wp2
  go_ret
  exact ⟨rfl, HG3.out⟩
set_option maxHeartbeats 1000000 in
theorem kind_three (n v x : ByteArray) (R : Bool) (w : World) (hv : v.size ≤ 2147483648) (hx : x.size ≤ 2147483648) (hm : Mx w) (hR : likeS v x = R) :
    Calls Tryz.prog 60 #[.agg #[.int .i64 3, .string n, .string v], .string x] w fun e w' => e = .returned (.bool R) ∧ w.grownBy w' none := by
  have HQ : Hid (∀ w, Calls Tryz.prog 73 #[.int .i64 3] w fun e w' => e = .returned (.func (.methodOf 117 "tidewrack/match.like") #[] #[]) ∧ w.grownBy w' none) := m_question 3
  have HMd : Hid (∀ w', w.grownBy w' none → Calls Tryz.prog 74 #[.agg #[.int .i64 3, .string n, .string v]] w' fun e w'' => w'.grownBy w'' none ∧ ∃ g c, e = .returned (.agg #[.slice (some ⟨g, 0, none⟩) (pcs v).length c, .string v]) ∧ PatRd w'' g (pcs v)) := fun w' hg => (m_made 3 n v w' hv (hm.grown hg)).mono fun e w'' ⟨h1, h2, _⟩ => ⟨h1, h2 (.inl rfl)⟩
  have f1 := neq_func
  have f3 := meth_like
  have hl := pcs_le v
  have HL : Hid (∀ w' g c, w.grownBy w' none → PatRd w' g (pcs v) → Calls Tryz.prog 97 #[.slice (some ⟨g, 0, none⟩) (pcs v).length c, .string x] w' fun e w'' => e = .returned (.bool R) ∧ ∃ k, w'' = w'.drewN k) := fun w' g c hg hrd => by
    obtain ⟨h0, m, hm'⟩ := hm.grown hg
    exact r_plike g _ c (pcs v) x R m w' rfl (by omega) hx (fun y hy => by have := pcs_size v y hy; omega) hrd hm' (by rw [← like_any]; exact hR)
  clear hl
  have HB : Hid ((w.alloc (.cells #[.int .i64 3, .string n, .string v] 94)).heap[w.heap.size]? = some (.cells #[.int .i64 3, .string n, .string v] 94)) := heap_alloc_new w _
  clear hv hx hm hR
  go_enter Tryz.func60, Tryz.ntmps60
  go_wp2_with fail
  refine (HQ.out _).mono ?_
  rintro e w1 ⟨rfl, hg⟩
  have HG : Hid (w.grownBy w1 none) := (World.grownBy_alloc w _ none).trans hg
  have hb1 := (hg.block w.heap.size (by simp) (by simp)).trans HB.out
  have c0 : w1.cell? ⟨w.heap.size, 0, none⟩ = some (.int .i64 3) := by rw [cell_of_row w1 w.heap.size 0 _ _ _ hb1]; rfl
  have c1 : w1.cell? ⟨w.heap.size, 1, none⟩ = some (.string n) := by rw [cell_of_row w1 w.heap.size 1 _ _ _ hb1]; rfl
  have c2 : w1.cell? ⟨w.heap.size, 2, none⟩ = some (.string v) := by rw [cell_of_row w1 w.heap.size 2 _ _ _ hb1]; rfl
  clear hg hb1 HQ
  go_wp2_with fail
  refine (HMd.out _ HG.out).mono ?_
  rintro e w2 ⟨hg2, g, c, rfl, hrd⟩
  have HG2 : Hid (w.grownBy w2 none) := HG.out.trans hg2
  have HL2 := HL.out w2 g c HG2.out hrd
  clear hg2 hrd HMd HL
  go_wp2_with fail
  refine HL2.mono ?_
  rintro e w3 ⟨rfl, kd, rfl⟩
  go_wp2
  go_ret
  exact ⟨rfl, gb_drewN' HG2.out kd⟩
set_option maxHeartbeats 1000000 in
theorem kind_four (n v x : ByteArray) (R : Bool) (w : World) (hv : v.size ≤ 2147483648) (hx : x.size ≤ 2147483648) (hm : Mx w) (hR : (!likeS v x) = R) :
    Calls Tryz.prog 60 #[.agg #[.int .i64 4, .string n, .string v], .string x] w fun e w' => e = .returned (.bool R) ∧ w.grownBy w' none := by
  have HQ : Hid (∀ w, Calls Tryz.prog 73 #[.int .i64 4] w fun e w' => e = .returned (.func (.func 98) #[] #[]) ∧ w.grownBy w' none) := m_question 4
  have HMd : Hid (∀ w', w.grownBy w' none → Calls Tryz.prog 74 #[.agg #[.int .i64 4, .string n, .string v]] w' fun e w'' => w'.grownBy w'' none ∧ ∃ g c, e = .returned (.agg #[.slice (some ⟨g, 0, none⟩) (pcs v).length c, .string v]) ∧ PatRd w'' g (pcs v)) := fun w' hg => (m_made 4 n v w' hv (hm.grown hg)).mono fun e w'' ⟨h1, h2, _⟩ => ⟨h1, h2 (.inr rfl)⟩
  have f1 := neq_func
  have f3 := meth_like
  have HL : Hid (∀ w' g c, w.grownBy w' none → PatRd w' g (pcs v) → Calls Tryz.prog 98 #[.agg #[.slice (some ⟨g, 0, none⟩) (pcs v).length c, .string v], .string x] w' fun e w'' => e = .returned (.bool R) ∧ w'.grownBy w'' none) := fun w' g c hg hrd => by rw [← hR]; exact m_unlike g c v v x _ w' hv hx (hm.grown hg) hrd rfl
  have HB : Hid ((w.alloc (.cells #[.int .i64 4, .string n, .string v] 94)).heap[w.heap.size]? = some (.cells #[.int .i64 4, .string n, .string v] 94)) := heap_alloc_new w _
  clear hv hx hm hR
  go_enter Tryz.func60, Tryz.ntmps60
  go_wp2_with fail
  refine (HQ.out _).mono ?_
  rintro e w1 ⟨rfl, hg⟩
  have HG : Hid (w.grownBy w1 none) := (World.grownBy_alloc w _ none).trans hg
  have hb1 := (hg.block w.heap.size (by simp) (by simp)).trans HB.out
  have c0 : w1.cell? ⟨w.heap.size, 0, none⟩ = some (.int .i64 4) := by rw [cell_of_row w1 w.heap.size 0 _ _ _ hb1]; rfl
  have c1 : w1.cell? ⟨w.heap.size, 1, none⟩ = some (.string n) := by rw [cell_of_row w1 w.heap.size 1 _ _ _ hb1]; rfl
  have c2 : w1.cell? ⟨w.heap.size, 2, none⟩ = some (.string v) := by rw [cell_of_row w1 w.heap.size 2 _ _ _ hb1]; rfl
  clear hg hb1 HQ
  go_wp2_with fail
  refine (HMd.out _ HG.out).mono ?_
  rintro e w2 ⟨hg2, g, c, rfl, hrd⟩
  have HG2 : Hid (w.grownBy w2 none) := HG.out.trans hg2
  have HL2 := HL.out w2 g c HG2.out hrd
  clear hg2 hrd HMd HL
  go_wp2_with fail
  refine HL2.mono ?_
  rintro e w3 ⟨rfl, hg3⟩
  have HG3 : Hid (w.grownBy w3 none) := HG2.out.trans hg3
  clear hg3
  go_wp2
  go_ret
  exact ⟨rfl, HG3.out⟩
set_option maxHeartbeats 400000 in
theorem kind_none (k : Int) (n v x : ByteArray) (w : World) (hk : k < 1 ∨ 4 < k) :
    Calls Tryz.prog 60 #[.agg #[.int .i64 k, .string n, .string v], .string x] w fun e w' => e = .returned (.bool false) ∧ w.grownBy w' none := by
  have HQ : Hid (∀ w, Calls Tryz.prog 73 #[.int .i64 k] w fun e w' => e = .returned .nilFunc ∧ w.grownBy w' none) := fun w => by have := m_question k w; rwa [q_nil hk] at this
  have f2 := neq_nil
  clear hk
  go_enter Tryz.func60, Tryz.ntmps60
  go_wp2_with fail
  refine (HQ.out _).mono ?_
  rintro e w1 ⟨rfl, hg⟩
  have HG : Hid (w.grownBy w1 none) := (World.grownBy_alloc w _ none).trans hg
  clear hg
  go_wp2
  go_ret
  exact ⟨rfl, HG.out⟩
theorem m_says (m : Mat) (x : ByteArray) (R : Bool) (w : World) (hv : m.2.2.size ≤ 2147483648) (hx : x.size ≤ 2147483648) (hm : Mx w) (hR : sayOne x m = R) :
    Calls Tryz.prog 60 #[.agg #[.int .i64 m.1, .string m.2.1, .string m.2.2], .string x] w fun e w' => e = .returned (.bool R) ∧ w.grownBy w' none := by
  obtain ⟨k, n, v⟩ := m
  unfold sayOne at hR
  simp only at hR hv ⊢
  by_cases h1 : k = 1
  · subst h1; exact kind_one n v x R w hv hx hm (by rw [if_pos rfl] at hR; exact hR)
  · rw [if_neg h1] at hR
    by_cases h2 : k = 2
    · subst h2; exact kind_two n v x R w hv hx hm (by rw [if_pos rfl] at hR; exact hR)
    · rw [if_neg h2] at hR
      by_cases h3 : k = 3
      · subst h3; exact kind_three n v x R w hv hx hm (by rw [if_pos rfl] at hR; exact hR)
      · rw [if_neg h3] at hR
        by_cases h4 : k = 4
        · subst h4; exact kind_four n v x R w hv hx hm (by rw [if_pos rfl] at hR; exact hR)
        · rw [if_neg h4] at hR
          subst hR
          exact kind_none k n v x w (by omega)
end Go.Proofs.YtpabbmiibehfjaaGreatDoor.Mt
