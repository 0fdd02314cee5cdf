/- Says; the calls of package match, as the statements use them. -/
import Derived.Test.YtpabbmiibehfjaaGreatDoorMtMone
import Derived.Test.YtpabbmiibehfjaaGreatDoorGc
namespace Go.Proofs.YtpabbmiibehfjaaGreatDoor.Mt
open Go.RowKit
set_option linter.unusedVariables false
set_option maxRecDepth 20000

set_option maxHeartbeats 2000000 in
theorem f_says (a b : Option Addr) (ms : List Mat) (ls : List Lab) (L M c d : Nat) (R : Bool) (w : World) (hx : SRd matE w a ms) (hy : SRd labE w b ls) (hL : ms.length = L) (hM : ls.length = M) (hz : L ≤ 3518437208883) (hz2 : M ≤ 4398046511104) (hv : ∀ m ∈ ms, m.2.2.size ≤ 2147483648) (hu : ∀ p ∈ ls, p.2.size ≤ 2147483648) (hm : Mx w) (hR : saysR ms ls = R) :
    Calls Tryz.prog 38 #[.slice a L c, .slice b M d] w fun e w' => e = .returned (.bool R) ∧ w.grownBy w' none := by
  have HX : Hid (SRd matE w a ms) := hx
  have HY : Hid (SRd labE w b ls) := hy
  have HL : Hid (ms.length = L) := hL
  have HM : Hid (ls.length = M) := hM
  have HV : Hid (∀ m ∈ ms, m.2.2.size ≤ 2147483648) := hv
  have HU : Hid (∀ p ∈ ls, p.2.size ≤ 2147483648) := hu
  have HMx : Hid (Mx w) := hm
  have H0 : Hid (SaysAt ms ls 0 R) := by show saysR _ _ = _; rw [List.drop_zero]; exact hR
  clear hx hy hL hM hv hu hR hm
  go_enter Tryz.func38, Tryz.ntmps38
  go_wp2
  go_loopw [9] (fun i wr => ∃ k : Nat, k ≤ L ∧ i = .int .i64 k ∧ w.grownBy wr none ∧ SaysAt ms ls k R) (fun i _ => L - (intOf i).toNat)
  case atStart => exact ⟨0, Nat.zero_le _, rfl, World.grownBy.refl _ _, H0.out⟩
  case round =>
    obtain ⟨k, hk, rfl, hg, hc⟩ := hrel
    have HG : Hid (w.grownBy wr none) := hg
    have HC : Hid (SaysAt ms ls k R) := hc
    clear hg hc H0
    by_cases hlt : k < L
    · have hl := HL.out
      obtain ⟨ba, off, rfl, hcc⟩ := (HX.out.grown HG.out (by simp)).at (by omega)
      obtain ⟨⟨x0, x1, x2⟩, ex⟩ : ∃ x, ms[k]? = some x := ⟨_, List.getElem?_eq_getElem (by omega)⟩
      have a0 : wr.cell? ⟨ba, off + k * 3, none⟩ = some (.int .i64 x0) := hcc k _ 0 _ ex rfl
      have a1 : wr.cell? ⟨ba, off + k * 3 + 1, none⟩ = some (.string x1) := by rw [Nat.add_assoc]; exact hcc k _ 1 _ ex rfl
      have a2 : wr.cell? ⟨ba, off + k * 3 + 2, none⟩ = some (.string x2) := by rw [Nat.add_assoc]; exact hcc k _ 2 _ ex rfl
      have HN : Hid ((sayOne (getR ls x1) (x0, x1, x2) && saysR (ms.drop (k + 1)) ls) = R) := HC.out.next ex
      have HGt : Hid (∀ w', w.grownBy w' none → Calls Tryz.prog 61 #[.slice b M d, .string x1] w' fun e w'' => e = .returned (.string (getR ls x1)) ∧ w'.grownBy w'' none) := fun w' hg => Lb.f_get b ls M d x1 _ w' (HY.out.grown hg (by simp)) HM.out hz2 rfl
      have hgs : (getR ls x1).size ≤ 2147483648 := getR_size x1 HU.out
      have hvs := HV.out _ (List.mem_of_getElem? ex)
      generalize getR ls x1 = v at HN HGt hgs
      obtain ⟨S1, eS⟩ : ∃ S1, sayOne v (x0, x1, x2) = S1 := ⟨_, rfl⟩
      have HSay : Hid (∀ w', w.grownBy w' none → Calls Tryz.prog 60 #[.agg #[.int .i64 x0, .string x1, .string x2], .string v] w' fun e w'' => e = .returned (.bool S1) ∧ w'.grownBy w'' none) := fun w' hg => m_says (x0, x1, x2) v S1 w' hvs hgs (HMx.out.grown hg) eS
      rw [eS] at HN
      have hki : (k : Int) < (L : Int) := by omega
      clear hcc ex hl hgs hvs eS
      have HBX : Hid (∀ w', (wr.alloc (.cells #[.int .i64 x0, .string x1, .string x2] 94)).grownBy w' none → w'.cell? ⟨wr.heap.size, 0, none⟩ = some (.int .i64 x0) ∧ w'.cell? ⟨wr.heap.size, 1, none⟩ = some (.string x1) ∧ w'.cell? ⟨wr.heap.size, 2, none⟩ = some (.string x2)) := fun w' hg => by
        have hb := (hg.block wr.heap.size (by simp) (by simp)).trans (heap_alloc_new wr _)
        exact ⟨by rw [cell_of_row w' wr.heap.size 0 _ _ _ hb]; rfl, by rw [cell_of_row w' wr.heap.size 1 _ _ _ hb]; rfl, by rw [cell_of_row w' wr.heap.size 2 _ _ _ hb]; rfl⟩
      go_wp2_with fail
      refine wp_region_held_drew (S := fun w' => (wr.alloc (.cells #[.int .i64 x0, .string x1, .string x2] 94)).grownBy w' none) (by kernel_rfl) (gb_drew (World.grownBy.refl _ none)) (fun hSS => ?_)
      refine draw_takeS 0 (v := .agg #[.int .i64 x0, .string x1, .string x2]) rfl (by kernel_rfl) (by kernel_rfl) (by kernel_rfl) (fun _ _ _ h => h) (by rfl) hSS ?_ ?_
      · intro w hS
        have d0 := (HBX.out _ hS).1
        have d1 := (HBX.out _ hS).2.1
        have d2 := (HBX.out _ hS).2.2
        clear hSS a0 a1 a2
        go_simp; try with_reducible rfl
      try simp only [Act.put, List.setIfInBounds_toArray, List.set_cons_zero, List.set_cons_succ]
      refine draw_takeS 1 (v := .slice b M d) rfl (by kernel_rfl) (by kernel_rfl) (by kernel_rfl) (fun _ _ _ h => h) (by rfl) hSS ?_ ?_
      · intro w hS
        have d0 := (HBX.out _ hS).1
        have d1 := (HBX.out _ hS).2.1
        have d2 := (HBX.out _ hS).2.2
        clear hSS a0 a1 a2
        go_simp; try with_reducible rfl
      try simp only [Act.put, List.setIfInBounds_toArray, List.set_cons_zero, List.set_cons_succ]
      refine draw_takeS 2 (v := .pointer (some ⟨wr.heap.size, 1, none⟩)) rfl (by kernel_rfl) (by kernel_rfl) (by kernel_rfl) (fun _ _ _ h => h) (by rfl) hSS ?_ ?_
      · intro w hS
        have d0 := (HBX.out _ hS).1
        have d1 := (HBX.out _ hS).2.1
        have d2 := (HBX.out _ hS).2.2
        clear hSS a0 a1 a2
        go_simp; try with_reducible rfl
      try simp only [Act.put, List.setIfInBounds_toArray, List.set_cons_zero, List.set_cons_succ]
      refine draw_takeS 3 (v := .string x1) rfl (by kernel_rfl) (by kernel_rfl) (by kernel_rfl) (fun _ _ _ h => h) (by rfl) hSS ?_ ?_
      · intro w hS
        have d0 := (HBX.out _ hS).1
        have d1 := (HBX.out _ hS).2.1
        have d2 := (HBX.out _ hS).2.2
        clear hSS a0 a1 a2
        go_simp; try with_reducible rfl
      try simp only [Act.put, List.setIfInBounds_toArray, List.set_cons_zero, List.set_cons_succ]
      refine draw_oneS 4 rfl (by kernel_rfl) (by rfl) (fun K hK => ?_)
      go_simp
      refine (HGt.out _ ((HG.out.trans (World.grownBy_alloc wr _ none)).trans hSS)).mono ?_
      rintro e p3 ⟨rfl, hgp⟩
      have hSS2 := hSS.trans hgp
      clear hSS hgp
      refine hK.out _ _ hSS2 ?_
      clear hK K
      try simp only [Act.put, List.setIfInBounds_toArray, List.set_cons_zero, List.set_cons_succ]
      refine draw_oneS 5 rfl (by kernel_rfl) (by rfl) (fun K hK => ?_)
      go_simp
      refine (HSay.out _ ((HG.out.trans (World.grownBy_alloc wr _ none)).trans hSS2)).mono ?_
      rintro e p4 ⟨rfl, hgp⟩
      have hSS3 := hSS2.trans hgp
      clear hSS2 hgp
      refine hK.out _ _ hSS3 ?_
      clear hK K
      try simp only [Act.put, List.setIfInBounds_toArray, List.set_cons_zero, List.set_cons_succ]
      refine draw_takeS 6 (v := .bool (!S1)) rfl (by kernel_rfl) (by kernel_rfl) (by kernel_rfl) (fun _ _ _ h => h) (by rfl) hSS3 ?_ ?_
      · intro w hS; clear hSS3; go_simp; try with_reducible rfl
      try simp only [Act.put, List.setIfInBounds_toArray, List.set_cons_zero, List.set_cons_succ]
      refine wpAnyH_done (by kernel_rfl) ?_ _
      have HG4 : Hid (w.grownBy p4 none) := (HG.out.trans (World.grownBy_alloc wr _ none)).trans hSS3
      clear hSS3 HBX HSay HGt a0 a1 a2
      cases S1 with
      | false =>
        have HS : Hid (false = R) := by have h := HN.out; rw [Bool.false_and] at h; exact h
        clear HN
        go_wp2
        go_ret
        exact ⟨ret_bool HS.out, HG4.out⟩
      | true =>
        have HS : Hid (SaysAt ms ls (k + 1) R) := by have h := HN.out; rw [Bool.true_and] at h; exact h
        clear HN
        go_wp2
        go_roundw
        case rel => exact ⟨k + 1, by omega, by go_num, HG4.out, HS.out⟩
        case measure => simp [intOf]; omega
    · have HS : Hid (true = R) := by
        have h := HC.out
        unfold SaysAt at h
        rw [List.drop_eq_nil_of_le (by have := HL.out; omega)] at h
        exact h
      have hki : ¬ (k : Int) < (L : Int) := by omega
      go_wp2
      go_ret
      exact ⟨ret_bool HS.out, HG.out⟩
end Go.Proofs.YtpabbmiibehfjaaGreatDoor.Mt
