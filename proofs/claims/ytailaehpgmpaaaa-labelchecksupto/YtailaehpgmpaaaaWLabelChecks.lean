/- Whether a label set may be, its bytes, hash and text are as the document says. -/
import Derived.Test.YtailaehpgmpaaaaKlab
namespace Go.Proofs.Ytailaehpgmpaaaa
open Go.ChangeShapes Go.WideShapes Go.ChangeAt Go.RowKit
set_option linter.unusedVariables false

set_option maxHeartbeats 4000000 in
theorem labelChecks_walk (a0 : Option Addr) (z0 : List Lab) (cap0 : Nat) (W : World)
    (r0 : SRd labE W a0 z0) (n0 : a0 = none → cap0 = 0) (l0 : z0.length ≤ 4398046510976) (hB : (encR z0).length ≤ 140737488354000) (hq : ∀ p ∈ z0, p.2.size ≤ 70368744177000) (hT : (labText z0).size ≤ 140737488355000) :
    Calls Try.prog 3 #[.slice a0 z0.length cap0] W fun e w' => e = .returned (.bool true) ∧ Below W.heap.size W w' := by
  obtain ⟨C, eC⟩ : ∃ G, checkR z0 = G := ⟨_, rfl⟩
  obtain ⟨X, eX⟩ : ∃ X, encR z0 = X := ⟨_, rfl⟩
  obtain ⟨F, eF⟩ : ∃ X, fnvR (encR z0) = X := ⟨_, rfl⟩
  obtain ⟨T, eT⟩ : ∃ X, labText z0 = X := ⟨_, rfl⟩
  have HXl : Hid (X.length ≤ 140737488354000) := by show _ ≤ _; rw [← eX]; exact hB
  have HLl : Hid (∀ w, W.grownBy w none → Calls Try.prog 9 #[.slice a0 z0.length cap0] w fun e w' => ∃ g c, e = .returned (.slice (some ⟨g, 0, none⟩) z0.length c) ∧ LOwn w' w.heap.size g (z0.length + 2) c (z0 ++ sp2) ∧ w.grownBy w' none) := fun w hg => llend a0 z0 _ cap0 w (r0.grown hg (by simp)) rfl n0 (by omega)
  have HFc : Hid (∀ (g c : Nat) (w : World), SRd labE w (some ⟨g, 0, none⟩) z0 → Calls Try.prog 10 #[.slice (some ⟨g, 0, none⟩) z0.length c] w fun e w' => e = .returned (.int .i64 C) ∧ w.grownBy w' none) := fun g c w h => f_check _ z0 _ c C w h rfl (by omega) eC
  have HFe : Hid (∀ (g c : Nat) (w : World), SRd labE w (some ⟨g, 0, none⟩) z0 → Calls Try.prog 11 #[.slice (some ⟨g, 0, none⟩) z0.length c] w fun e w' => ∃ g c N, e = .returned (.slice (some ⟨g, 0, none⟩) N c) ∧ Own w' w.heap.size g N c X ∧ w.grownBy w' none) := fun g c w h => f_encode _ z0 _ c X w h rfl (by omega) hB eX
  have HFh : Hid (∀ (g c : Nat) (w : World), SRd labE w (some ⟨g, 0, none⟩) z0 → Calls Try.prog 12 #[.slice (some ⟨g, 0, none⟩) z0.length c] w fun e w' => e = .returned (.int .u32 F) ∧ w.grownBy w' none) := fun g c w h => f_hash _ z0 _ c F w h rfl (by omega) hB eF
  have HFt : Hid (∀ (g c : Nat) (w : World), SRd labE w (some ⟨g, 0, none⟩) z0 → Calls Try.prog 13 #[.slice (some ⟨g, 0, none⟩) z0.length c] w fun e w' => e = .returned (.string T) ∧ w.grownBy w' none) := fun g c w h => f_labtext _ z0 _ c T w h rfl (by omega) hq hT eT
  have HKl0 : Hid (∀ (base g c : Nat) (w : World), W.grownBy w none → LOwn w base g (z0.length + 2) c (z0 ++ sp2) → Calls Try.prog 14 #[.slice (some ⟨g, 0, none⟩) z0.length c, .slice a0 z0.length cap0] w fun e w' => e = .returned (.bool true) ∧ w.grownBy w' (some g)) := fun base g c w hg ho => lkept a0 z0 base g _ c cap0 w (r0.grown hg (by simp)) rfl ho (by omega)
  have HRc : Hid (∀ w, W.grownBy w none → Calls Try.prog 15 #[.slice a0 z0.length cap0] w fun e w' => e = .returned (.int .i64 C) ∧ w.grownBy w' none) := fun w hg => r_check a0 z0 _ cap0 C w (r0.grown hg (by simp)) rfl (by omega) eC
  have HRe : Hid (∀ w, W.grownBy w none → Calls Try.prog 17 #[.slice a0 z0.length cap0] w fun e w' => ∃ g c N, e = .returned (.slice (some ⟨g, 0, none⟩) N c) ∧ Own w' w.heap.size g N c X ∧ w.grownBy w' none) := fun w hg => by
    have h := r_encode a0 z0 _ cap0 w (r0.grown hg (by simp)) rfl (by omega) hB; rw [eX] at h; exact h
  have HRh : Hid (∀ w, W.grownBy w none → Calls Try.prog 18 #[.slice a0 z0.length cap0] w fun e w' => e = .returned (.int .u32 F) ∧ w.grownBy w' none) := fun w hg => r_hash a0 z0 _ cap0 F w (r0.grown hg (by simp)) rfl (by omega) hB eF
  have HRt : Hid (∀ w, W.grownBy w none → Calls Try.prog 19 #[.slice a0 z0.length cap0] w fun e w' => e = .returned (.string T) ∧ w.grownBy w' none) := fun w hg => by
    have h := r_text a0 z0 _ cap0 w (r0.grown hg (by simp)) rfl (by omega) hq (by omega); rw [eT] at h; exact h
  obtain ⟨L, eL⟩ : ∃ L, L = z0.length := ⟨_, rfl⟩
  rw [← eL] at HLl HFc HFe HFh HFt HKl0 HRc HRe HRh HRt l0 ⊢
  clear r0 n0 eL eC eX eF eT hB hq hT
  go_enter Try.func3, Try.ntmps3
  go_wp2_with fail
  refine (HLl.out W (World.grownBy.refl _ _)).mono ?_
  rintro e w1 ⟨gx, cx, rfl, hox, hg1⟩
  have HOX : Hid (LOwn w1 W.heap.size gx (L + 2) cx (z0 ++ sp2)) := hox
  have HG1 : Hid (W.grownBy w1 none) := hg1
  have HGX : Hid (W.heap.size ≤ gx ∧ gx < w1.heap.size) := hox.ge
  clear hox hg1 HLl
  go_wp2_with fail
  refine (HFc.out gx cx w1 HOX.out.head).mono ?_
  rintro e w2 ⟨rfl, hg2⟩
  have HG12 : Hid (w1.grownBy w2 none) := hg2
  clear hg2 HFc
  go_wp2_with fail
  refine (HFe.out gx cx w2 (HOX.out.kept HG12.out (by simp)).head).mono ?_
  rintro e w3 ⟨g3, c3, N3, rfl, ho3, hg3⟩
  have HG13 : Hid (w1.grownBy w3 none) := HG12.out.trans hg3
  have HO3 : Hid (Own w3 w2.heap.size g3 N3 c3 X) := ho3
  have HN3 : N3 ≤ 140737488354000 := by have := ho3.len; have := HXl.out; omega
  clear hg3 ho3 HFe
  go_wp2_with fail
  refine (HFh.out gx cx w3 (HOX.out.kept HG13.out (by simp)).head).mono ?_
  rintro e w4 ⟨rfl, hg4⟩
  have HG34 : Hid (w3.grownBy w4 none) := hg4
  have HG14 : Hid (w1.grownBy w4 none) := HG13.out.trans hg4
  clear hg4 HFh
  go_wp2_with fail
  refine (HFt.out gx cx w4 (HOX.out.kept HG14.out (by simp)).head).mono ?_
  rintro e w5 ⟨rfl, hg5⟩
  have HG35 : Hid (w3.grownBy w5 none) := HG34.out.trans hg5
  have HG15 : Hid (w1.grownBy w5 none) := HG14.out.trans hg5
  have HG5 : Hid (W.grownBy w5 none) := HG1.out.trans HG15.out
  clear hg5 HFt HG34 HG14 HG13
  go_wp2_with fail
  refine (HKl0.out _ gx cx w5 HG5.out (HOX.out.kept HG15.out (by simp))).mono ?_
  rintro e w6 ⟨rfl, hg6⟩
  have HG6 : Hid (W.grownBy w6 none) := gb_trans HG5.out hg6 (fun k hk => .inl (by simp at hk; have := HGX.out.1; omega))
  have HO6 : Hid (Own w6 w2.heap.size g3 N3 c3 X) := (HO3.out.kept HG35.out (by simp)).kept hg6 (by have h1 := HGX.out; have h2 := HO3.out.ge.1; have h3 := HG12.out.size; intro e; simp at e; omega)
  clear hg6 HKl0 HO3 HOX HG35
  go_wp2_with fail
  refine (HRc.out w6 HG6.out).mono ?_
  rintro e w7 ⟨rfl, hg7⟩
  have HG67 : Hid (w6.grownBy w7 none) := hg7
  have qC : (C == C) = true := by simp
  clear hg7 HRc
  go_wp2_with fail
  refine (HRe.out w7 (HG6.out.trans HG67.out)).mono ?_
  rintro e w8 ⟨g8, c8, N8, rfl, ho8, hg8⟩
  have HO8 : Hid (Own w8 w7.heap.size g8 N8 c8 X) := ho8
  have HG68 : Hid (w6.grownBy w8 none) := HG67.out.trans hg8
  clear ho8 hg8 HRe HG67
  go_wp2_with fail
  refine (same_any (some ⟨g3, 0, none⟩) (some ⟨g8, 0, none⟩) X X N3 N8 c3 c8 w8 (HO6.out.kept HG68.out (by simp)).rd HO8.out.rd HO6.out.len HO8.out.len (by omega)).mono ?_
  rintro e w9 ⟨rfl, hg9⟩
  rw [show decide (X = X) = true by simp]
  have HG9 : Hid (W.grownBy w9 none) := (HG6.out.trans HG68.out).trans hg9
  clear hg9 HO8 HO6 HG68 HG6
  go_wp2_with fail
  refine (HRh.out w9 HG9.out).mono ?_
  rintro e w10 ⟨rfl, hg10⟩
  have HG10 : Hid (W.grownBy w10 none) := HG9.out.trans hg10
  have qF : (F == F) = true := by simp
  clear hg10 HRh HG9
  go_wp2_with fail
  refine (HRt.out w10 HG10.out).mono ?_
  rintro e w11 ⟨rfl, hg11⟩
  have HG11 : Hid (W.grownBy w11 none) := HG10.out.trans hg11
  have qT : (T.toList == T.toList) = true := by simp
  clear hg11 HRt HG10
  go_wp2_with fail
  refine (awake_lab w11).mono ?_
  rintro e w12 ⟨rfl, hg12⟩
  have HG12' : Hid (W.grownBy w12 none) := HG11.out.trans hg12
  clear hg12
  go_wp2
  go_ret
  exact ⟨rfl, gb_below HG12'.out⟩
end Go.Proofs.Ytailaehpgmpaaaa
