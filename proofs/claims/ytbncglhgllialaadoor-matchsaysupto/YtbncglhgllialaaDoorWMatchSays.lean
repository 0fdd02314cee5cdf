/- Matchers are taken, and say of any label set, what the document says. -/
import Derived.Test.YtbncglhgllialaaDoorKmat
import Derived.Test.YtbncglhgllialaaDoorMopen
namespace Go.Proofs.YtbncglhgllialaaDoor
open Go.ChangeShapes Go.WideShapes Go.ChangeAt Go.RowKit
set_option linter.unusedVariables false

set_option maxHeartbeats 1000000 in
theorem matchSays_walk (a0 : Option Addr) (z0 : List Mat) (cap0 : Nat) (a1 : Option Addr) (z1 : List Lab) (cap1 : Nat) (W : World)
    (r0 : SRd matE W a0 z0) (n0 : a0 = none → cap0 = 0) (l0 : z0.length ≤ 3518437208780) (s0 : ∀ q ∈ z0, SmallMat q) (r1 : SRd labE W a1 z1) (n1 : a1 = none → cap1 = 0) (l1 : z1.length ≤ 4398046510976) (s1 : ∀ q ∈ z1, SmallLab q) (u0 : ∀ q ∈ z0, q.2.2.size ≤ 2147483648) (u1 : ∀ q ∈ z1, q.2.size ≤ 2147483648) (hm : Mx W) :
    Calls Tryd.prog 3 #[.slice a0 z0.length cap0, .slice a1 z1.length cap1] W fun e w' => e = .returned (.bool true) ∧ Below W.heap.size W w' := by
  obtain ⟨C, eC⟩ : ∃ C, mchk z0 = C := ⟨_, rfl⟩
  obtain ⟨R, eR⟩ : ∃ R, saysR z0 z1 = R := ⟨_, rfl⟩
  have v0 : ∀ m ∈ z0, m.2.2.size ≤ 140737488356000 := fun m hq => by have := (s0 m hq).2.2; omega
  have v1 : ∀ p ∈ z1, p.2.size ≤ 4611686018427387000 := fun m hq => by have := (s1 m hq).2; omega
  have HLm : Hid (∀ w, W.grownBy w none → Calls Tryd.prog 7 #[.slice a0 z0.length cap0] w fun e w' => ∃ g c, e = .returned (.slice (some ⟨g, 0, none⟩) z0.length c) ∧ MOwn w' w.heap.size g (z0.length + 2) c (z0 ++ msp2) ∧ w.grownBy w' none) := fun w hg => mlend a0 z0 _ cap0 w (r0.grown hg (by simp)) rfl n0 (by omega)
  have HLl : Hid (∀ w, W.grownBy w none → Calls Tryd.prog 8 #[.slice a1 z1.length cap1] w fun e w' => ∃ g c, e = .returned (.slice (some ⟨g, 0, none⟩) z1.length c) ∧ LOwn w' w.heap.size g (z1.length + 2) c (z1 ++ sp2) ∧ w.grownBy w' none) := fun w hg => llend a1 z1 _ cap1 w (r1.grown hg (by simp)) rfl n1 (by omega)
  have HCheck : Hid (∀ (g c : Nat) (w : World), SRd matE w (some ⟨g, 0, none⟩) z0 → Calls Tryd.prog 9 #[.slice (some ⟨g, 0, none⟩) z0.length c] w fun e w' => e = .returned (.int .i64 C) ∧ w.grownBy w' none) := fun g c w h => f_mcheck _ z0 _ c C w h rfl (by omega) eC
  have HSays : Hid (∀ (g c h d : Nat) (w : World), Mx w → SRd matE w (some ⟨g, 0, none⟩) z0 → SRd labE w (some ⟨h, 0, none⟩) z1 → Calls Tryd.prog 10 #[.slice (some ⟨g, 0, none⟩) z0.length c, .slice (some ⟨h, 0, none⟩) z1.length d] w fun e w' => e = .returned (.bool R) ∧ w.grownBy w' none) := fun g c h d w mw h0 h1 => f_says _ _ z0 z1 _ _ c d R w h0 h1 rfl rfl (by omega) (by omega) u0 u1 mw eR
  have HKm : Hid (∀ (base g c : Nat) (w : World), W.grownBy w none → MOwn w base g (z0.length + 2) c (z0 ++ msp2) → Calls Tryd.prog 11 #[.slice (some ⟨g, 0, none⟩) z0.length c, .slice a0 z0.length cap0] w fun e w' => e = .returned (.bool true) ∧ w.grownBy w' (some g)) := fun base g c w hg ho => mkept a0 z0 base g _ c cap0 w (r0.grown hg (by simp)) rfl ho (by omega)
  have HKl : Hid (∀ (base g c : Nat) (w : World), W.grownBy w none → LOwn w base g (z1.length + 2) c (z1 ++ sp2) → Calls Tryd.prog 12 #[.slice (some ⟨g, 0, none⟩) z1.length c, .slice a1 z1.length cap1] w fun e w' => e = .returned (.bool true) ∧ w.grownBy w' (some g)) := fun base g c w hg ho => lkept a1 z1 base g _ c cap1 w (r1.grown hg (by simp)) rfl ho (by omega)
  have HrC : Hid (∀ w, W.grownBy w none → Calls Tryd.prog 13 #[.slice a0 z0.length cap0] w fun e w' => e = .returned (.int .i64 C) ∧ w.grownBy w' none) := fun w hg => r_mcheck a0 z0 _ cap0 C w (r0.grown hg (by simp)) rfl (by omega) eC
  have HrS : Hid (∀ w, W.grownBy w none → Calls Tryd.prog 14 #[.slice a0 z0.length cap0, .slice a1 z1.length cap1] w fun e w' => e = .returned (.bool R) ∧ w.grownBy w' none) := fun w hg => r_says a0 a1 z0 z1 _ _ cap0 cap1 R w (r0.grown hg (by simp)) (r1.grown hg (by simp)) rfl rfl (by omega) (by omega) v0 v1 eR
  have HA : Hid (∀ w, Mx w → Calls Tryd.prog 15 #[] w fun e w' => e = .returned (.bool true) ∧ w.grownBy w' none) := awake_mat
  obtain ⟨L, eL⟩ : ∃ L, L = z0.length := ⟨_, rfl⟩
  obtain ⟨M, eM⟩ : ∃ M, M = z1.length := ⟨_, rfl⟩
  rw [← eL] at HLm HCheck HSays HKm HrC HrS ⊢
  rw [← eM] at HLl HSays HKl HrS ⊢
  clear r0 r1 n0 n1 eL eM eC eR v0 v1 s0 s1 l0 l1 u0 u1
  have qR : (R == R) = true := by simp
  go_enter Tryd.func3, Tryd.ntmps3
  go_wp2_with fail
  refine (HLm.out W (World.grownBy.refl _ _)).mono ?_
  rintro e w1 ⟨gx, cx, rfl, hox, hg1⟩
  have HOX : Hid (MOwn w1 W.heap.size gx (L + 2) cx (z0 ++ msp2)) := hox
  have HG1 : Hid (W.grownBy w1 none) := hg1
  have HGX : Hid (W.heap.size ≤ gx ∧ gx < w1.heap.size) := hox.ge
  clear hox hg1 HLm
  go_wp2_with fail
  refine (HLl.out w1 HG1.out).mono ?_
  rintro e w2 ⟨gy, cy, rfl, hoy, hg2⟩
  have HOY : Hid (LOwn w2 w1.heap.size gy (M + 2) cy (z1 ++ sp2)) := hoy
  have HG2 : Hid (W.grownBy w2 none) := HG1.out.trans hg2
  have HGY : Hid (w1.heap.size ≤ gy ∧ gy < w2.heap.size) := hoy.ge
  have HOX2 : Hid (MOwn w2 W.heap.size gx (L + 2) cx (z0 ++ msp2)) := HOX.out.kept hg2 (by simp)
  clear hoy hg2 HLl HOX
  go_wp2_with fail
  refine (HCheck.out gx cx w2 HOX2.out.head).mono ?_
  rintro e w3 ⟨rfl, hg3⟩
  have HG23 : Hid (w2.grownBy w3 none) := hg3
  clear hg3 HCheck
  go_wp2_with fail
  refine (HSays.out gx cx gy cy w3 (hm.grown (HG2.out.trans HG23.out)) (HOX2.out.kept HG23.out (by simp)).head (HOY.out.kept HG23.out (by simp)).head).mono ?_
  rintro e w4 ⟨rfl, hg4⟩
  have HG24 : Hid (w2.grownBy w4 none) := HG23.out.trans hg4
  clear hg4 HSays HG23
  go_wp2_with fail
  refine (HKm.out _ gx cx w4 (HG2.out.trans HG24.out) (HOX2.out.kept HG24.out (by simp))).mono ?_
  rintro e w5 ⟨rfl, hg5⟩
  have HG5 : Hid (W.grownBy w5 none) := gb_trans (HG2.out.trans HG24.out) hg5 (fun k hk => .inl (by simp at hk; have := HGX.out.1; omega))
  have HOY5 : Hid (LOwn w5 w1.heap.size gy (M + 2) cy (z1 ++ sp2)) := (HOY.out.kept HG24.out (by simp)).kept hg5 (by have h1 := HGX.out; have h2 := HGY.out; intro e; simp at e; omega)
  clear hg5 HKm HOX2 HOY HG24
  go_wp2_with fail
  refine (HKl.out _ gy cy w5 HG5.out HOY5.out).mono ?_
  rintro e w6 ⟨rfl, hg6⟩
  have HG6 : Hid (W.grownBy w6 none) := gb_trans HG5.out hg6 (fun k hk => .inl (by simp at hk; have := HGX.out; have := HGY.out; omega))
  clear hg6 HKl HOY5
  go_wp2_with fail
  refine (HrC.out w6 HG6.out).mono ?_
  rintro e w7 ⟨rfl, hg7⟩
  have HG7 : Hid (W.grownBy w7 none) := HG6.out.trans hg7
  clear hg7 HrC
  go_wp2_with fail
  refine (HrS.out w7 HG7.out).mono ?_
  rintro e w8 ⟨rfl, hg8⟩
  have HG8 : Hid (W.grownBy w8 none) := HG7.out.trans hg8
  clear hg8 HrS
  go_wp2_with fail
  refine (HA.out _ (hm.grown HG8.out)).mono ?_
  rintro e w9 ⟨rfl, hg9⟩
  have HG9 : Hid (W.grownBy w9 none) := HG8.out.trans hg9
  clear hg9 HA
  go_wp2
  go_ret
  exact ⟨rfl, gb_below HG9.out⟩
end Go.Proofs.YtbncglhgllialaaDoor
