/- Limits: awake. -/
import Derived.Test.YthkalbiglfgleaaLh
import Derived.Test.YthkalbiglfgleaaLb
namespace Go.Proofs.Ythkalbiglfgleaa
open Go.RowKit
set_option linter.unusedVariables false
set_option maxRecDepth 20000

theorem ten_a : tenR ⟨#[97]⟩ = true := by kernel_rfl
theorem ten_A : tenR ⟨#[65]⟩ = false := by kernel_rfl
theorem ten_a1 : tenR ⟨#[97, 45, 49]⟩ = true := by kernel_rfl
theorem ten_0 : tenR ⟨#[]⟩ = false := by kernel_rfl
theorem chk_ax : checkR [(⟨#[97]⟩, ⟨#[120]⟩)] = 0 := by kernel_rfl
theorem lim_ax : checkL ⟨#[97]⟩ [([(⟨#[97]⟩, ⟨#[120]⟩)], 5, 0)] 1 1 = (0, 0) := by
  have hf : fitB [(⟨#[97]⟩, ⟨#[120]⟩)] 1 = true := by unfold fitB; rw [chk_ax]; rfl
  have hw : wrongR 1 [(⟨#[97]⟩, ⟨#[120]⟩)] 5 = 0 := by unfold wrongR; rw [hf]; rfl
  unfold checkL
  rw [ten_a, if_neg (by simp), if_neg (by simp; decide)]
  unfold firstW
  simp only [hw]
  rfl
theorem lim_A (Q : List Smp) : checkL ⟨#[65]⟩ Q 1 1 = (0, 150) := by unfold checkL; rw [ten_A, if_pos rfl]
theorem norm_7 : normR 9221120237041090567 = 9221120237041090560 := by decide
theorem norm_s : normR 9218868437227405314 = 9218868437227405314 := by decide
/-- The sample of awake, as it lies. -/
theorem ax_rd (w : World) : SmpRd ((w.alloc (.cells #[.string ⟨#[97]⟩, .string ⟨#[120]⟩] 49)).alloc (.cells #[.slice (some ⟨w.heap.size, 0, none⟩) 1 1, .int .i64 5, .int .u64 0] 37)) (some ⟨w.heap.size + 1, 0, none⟩) [((some ⟨w.heap.size, 0, none⟩, 1, 1), 5, 0)] [([(⟨#[97]⟩, ⟨#[120]⟩)], 5, 0)] := by
  have hs := size_alloc w (.cells #[.string ⟨#[97]⟩, .string ⟨#[120]⟩] 49)
  refine ⟨?_, rfl, fun i r s hr hs2 => ?_⟩
  · rw [← hs]
    exact srd_lit smpE 37 (w.alloc (.cells #[.string ⟨#[97]⟩, .string ⟨#[120]⟩] 49)) [((some ⟨w.heap.size, 0, none⟩, 1, 1), 5, 0)]
  · cases i with
    | succ i => simp at hr
    | zero =>
      simp only [List.getElem?_cons_zero, Option.some.injEq] at hr hs2
      subst hr hs2
      exact ⟨rfl, (srd_lit labE 49 w [(⟨#[97]⟩, ⟨#[120]⟩)]).grown (World.grownBy_alloc _ _ none) (by simp), by simp, by decide, rfl⟩
set_option maxHeartbeats 1000000 in
theorem l_awake (w : World) : Calls Try.prog 14 #[] w fun e w' => e = .returned (.bool true) ∧ w.grownBy w' none := by
  obtain ⟨W, hW⟩ : ∃ W, W = (w.alloc (.cells #[.string ⟨#[97]⟩, .string ⟨#[120]⟩] 49)).alloc (.cells #[.slice (some ⟨w.heap.size, 0, none⟩) 1 1, .int .i64 5, .int .u64 0] 37) := ⟨_, rfl⟩
  have HG : Hid (w.grownBy W none) := hW ▸ (World.grownBy_alloc w _ none).trans (World.grownBy_alloc _ _ none)
  have HR : Hid (SmpRd W (some ⟨w.heap.size + 1, 0, none⟩) [((some ⟨w.heap.size, 0, none⟩, 1, 1), 5, 0)] [([(⟨#[97]⟩, ⟨#[120]⟩)], 5, 0)]) := hW ▸ ax_rd w
  have HW : Hid ((w.alloc (.cells #[.string ⟨#[97]⟩, .string ⟨#[120]⟩] 49)).alloc (.cells #[.slice (some ⟨w.heap.size, 0, none⟩) 1 1, .int .i64 5, .int .u64 0] 37) = W) := hW.symm
  have HC : Hid (∀ (s : ByteArray) (A C : Int), checkL s [([(⟨#[97]⟩, ⟨#[120]⟩)], 5, 0)] 1 1 = (A, C) → ∀ u, W.grownBy u none → Calls Try.prog 8 #[.string s, .slice (some ⟨w.heap.size + 1, 0, none⟩) 1 1, limV 0 1 1 false] u fun e w' => e = .returned (.tuple #[.int .i64 A, .int .i64 C]) ∧ u.grownBy w' none) := fun s A C h u hu => f_lcheck s _ _ _ 1 1 0 1 1 A C false u (HR.out.grown hu) rfl (by decide) h
  have HT1 : Hid (∀ u, Calls Try.prog 10 #[.string ⟨#[97, 45, 49]⟩] u fun e w' => e = .returned (.bool true) ∧ u = w') := fun u => ten_a1 ▸ f_tenant ⟨#[97, 45, 49]⟩ u
  have HT0 : Hid (∀ u, Calls Try.prog 10 #[.string ⟨#[]⟩] u fun e w' => e = .returned (.bool false) ∧ u = w') := fun u => ten_0 ▸ f_tenant ⟨#[]⟩ u
  have HN7 : Hid (∀ u, Calls Try.prog 12 #[.int .u64 9221120237041090567] u fun e w' => e = .returned (.int .u64 9221120237041090560) ∧ u = w') := fun u => norm_7 ▸ f_normal 9221120237041090567 u (by decide)
  have HNs : Hid (∀ u, Calls Try.prog 12 #[.int .u64 9218868437227405314] u fun e w' => e = .returned (.int .u64 9218868437227405314) ∧ u = w') := fun u => by
    have h := f_normal 9218868437227405314 u (by decide)
    rw [norm_s] at h
    exact h
  clear hW
  go_enter Try.func14, Try.ntmps14
  go_upto_region 2 with fail
  rw [HW.out]
  go_wp2_with fail
  refine (HC.out _ 0 0 lim_ax _ (World.grownBy.refl _ _)).mono ?_
  rintro e w1 ⟨rfl, hg1⟩
  have H1 : Hid (W.grownBy w1 none) := hg1
  clear hg1
  go_wp2_with fail
  refine (HC.out _ 0 150 (lim_A _) _ H1.out).mono ?_
  rintro e w2 ⟨rfl, hg2⟩
  have H2 : Hid (W.grownBy w2 none) := H1.out.trans hg2
  clear hg2
  go_wp2_with fail
  refine (HT1.out _).mono ?_
  rintro e w3 ⟨rfl, rfl⟩
  go_wp2_with fail
  refine (HT0.out _).mono ?_
  rintro e w3 ⟨rfl, rfl⟩
  go_wp2_with fail
  refine (HN7.out _).mono ?_
  rintro e w3 ⟨rfl, rfl⟩
  go_wp2_with fail
  refine (HNs.out _).mono ?_
  rintro e w3 ⟨rfl, rfl⟩
  go_wp2
  go_ret
  exact ⟨rfl, HG.out.trans H2.out⟩
theorem Low_any (x : Int) (w : World) : Calls Try.prog 15 #[.int .i64 x] w fun e w' => ∃ r, e = .returned (.int .i64 r) ∧ 0 ≤ r ∧ r ≤ 9223372036854775807 ∧ w = w' := by
  have h := and_low x
  have H : Hid (0 ≤ bits .and .i64 x 9223372036854775807 ∧ bits .and .i64 x 9223372036854775807 ≤ 9223372036854775807) := h
  clear h
  go_enter Try.func15, Try.ntmps15
  go_wp2
  go_ret
  exact ⟨_, rfl, H.out.1, H.out.2, rfl⟩
end Go.Proofs.Ythkalbiglfgleaa
