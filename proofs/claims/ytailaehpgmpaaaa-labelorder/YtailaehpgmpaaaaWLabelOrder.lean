/- Label sets are in one strict order. -/
import Derived.Test.YtailaehpgmpaaaaKlab
import Derived.Test.YtailaehpgmpaaaaLmath
namespace Go.Proofs.Ytailaehpgmpaaaa
open Go.ChangeShapes Go.WideShapes Go.ChangeAt Go.RowKit
set_option linter.unusedVariables false

set_option maxHeartbeats 4000000 in
theorem labelOrder_walk (a0 : Option Addr) (z0 : List Lab) (cap0 : Nat) (a1 : Option Addr) (z1 : List Lab) (cap1 : Nat) (a2 : Option Addr) (z2 : List Lab) (cap2 : Nat) (W : World)
    (r0 : SRd labE W a0 z0) (n0 : a0 = none → cap0 = 0) (l0 : z0.length ≤ 4398046510976) (r1 : SRd labE W a1 z1) (n1 : a1 = none → cap1 = 0) (l1 : z1.length ≤ 4398046510976) (r2 : SRd labE W a2 z2) (n2 : a2 = none → cap2 = 0) (l2 : z2.length ≤ 4398046510976) :
    Calls Try.prog 6 #[.slice a0 z0.length cap0, .slice a1 z1.length cap1, .slice a2 z2.length cap2] W fun e w' => e = .returned (.bool true) ∧ Below W.heap.size W w' := by
  have hx : cmpR z0 z1 = - cmpR z1 z0 := cmp_anti z0 z1
  have hxb := cmp_bd z0 z1
  have HZ : Hid (cmpR z0 z1 = 0 ↔ z0 = z1) := cmp_zero z0 z1
  have hT := (ord_cmpR.all z0 z1 z2).1
  have hT2 := (ord_cmpR.all z2 z1 z0).1
  rw [cmp_anti z2 z1, cmp_anti z1 z0, cmp_anti z2 z0] at hT2
  have hT2' : 0 ≤ cmpR z0 z1 → 0 ≤ cmpR z1 z2 → 0 ≤ cmpR z0 z2 := fun h1 h2 => by have := hT2 (by omega) (by omega); omega
  have hwb := cmp_bd z0 z2
  have hzb := cmp_bd z1 z2
  have HF : Hid (((cmpR z0 z1 == 0) == decide (z0 = z1)) = true) := by
    show _ = _
    by_cases h : z0 = z1
    · rw [decide_eq_true h, HZ.out.2 h]; rfl
    · have : ¬ cmpR z0 z1 = 0 := fun e => h (HZ.out.1 e)
      rw [decide_eq_false h, show (cmpR z0 z1 == 0) = false by simpa using this]; rfl
  have HS : Hid (∀ w, W.grownBy w none → Calls Try.prog 26 #[.slice a0 z0.length cap0, .slice a1 z1.length cap1] w fun e w' => e = .returned (.bool (decide (z0 = z1))) ∧ w.grownBy w' none) := fun w hg => lsame a0 a1 z0 z1 _ _ cap0 cap1 w (r0.grown hg (by simp)) (r1.grown hg (by simp)) rfl rfl (by omega)
  have HRf : Hid (∀ w, W.grownBy w none → Calls Try.prog 39 #[.slice a0 z0.length cap0, .slice a1 z1.length cap1] w fun e w' => e = .returned (.int .i64 (cmpR z0 z1)) ∧ w.grownBy w' none) := fun w hg => r_compare a0 a1 z0 z1 _ _ cap0 cap1 _ w (r0.grown hg (by simp)) (r1.grown hg (by simp)) rfl rfl (by omega) (by omega) rfl
  have HC0 : Hid (∀ w, W.grownBy w none → Calls Try.prog 38 #[.slice a0 z0.length cap0] w fun e w' => ∃ g c, e = .returned (.slice (some ⟨g, 0, none⟩) z0.length c) ∧ LOwn w' w.heap.size g z0.length c z0 ∧ w.grownBy w' none) := fun w hg => lcopy a0 z0 _ cap0 w (r0.grown hg (by simp)) rfl n0 (by omega)
  have HC1 : Hid (∀ w, W.grownBy w none → Calls Try.prog 38 #[.slice a1 z1.length cap1] w fun e w' => ∃ g c, e = .returned (.slice (some ⟨g, 0, none⟩) z1.length c) ∧ LOwn w' w.heap.size g z1.length c z1 ∧ w.grownBy w' none) := fun w hg => lcopy a1 z1 _ cap1 w (r1.grown hg (by simp)) rfl n1 (by omega)
  have HC2 : Hid (∀ w, W.grownBy w none → Calls Try.prog 38 #[.slice a2 z2.length cap2] w fun e w' => ∃ g c, e = .returned (.slice (some ⟨g, 0, none⟩) z2.length c) ∧ LOwn w' w.heap.size g z2.length c z2 ∧ w.grownBy w' none) := fun w hg => lcopy a2 z2 _ cap2 w (r2.grown hg (by simp)) rfl n2 (by omega)
  have HD : Hid (∀ (g h c d : Nat) (xs ys : List Lab) (w : World), SRd labE w (some ⟨g, 0, none⟩) xs → SRd labE w (some ⟨h, 0, none⟩) ys → xs.length ≤ 4398046510976 → ys.length ≤ 4398046510976 → Calls Try.prog 37 #[.slice (some ⟨g, 0, none⟩) xs.length c, .slice (some ⟨h, 0, none⟩) ys.length d] w fun e w' => e = .returned (.int .i64 (cmpR xs ys)) ∧ w.grownBy w' none) := fun g h c d xs ys w h1 h2 h3 h4 => f_compare _ _ xs ys _ _ c d _ w h1 h2 rfl rfl (by omega) (by omega) rfl
  have HL0 : Hid (z0.length ≤ 4398046510976) := l0
  have HL1 : Hid (z1.length ≤ 4398046510976) := l1
  have HL2 : Hid (z2.length ≤ 4398046510976) := l2
  obtain ⟨x, ex⟩ : ∃ x, cmpR z0 z1 = x := ⟨_, rfl⟩
  obtain ⟨y, ey⟩ : ∃ y, cmpR z1 z0 = y := ⟨_, rfl⟩
  obtain ⟨z, ez⟩ : ∃ z, cmpR z1 z2 = z := ⟨_, rfl⟩
  obtain ⟨v, ev⟩ : ∃ v, cmpR z0 z2 = v := ⟨_, rfl⟩
  have HX : Hid (cmpR z0 z1 = x ∧ cmpR z1 z0 = y ∧ cmpR z1 z2 = z ∧ cmpR z0 z2 = v) := ⟨ex, ey, ez, ev⟩
  rw [ex] at hx hxb hT hT2' HF HRf
  rw [ey] at hx
  rw [ez] at hT hT2' hzb
  rw [ev] at hT hT2' hwb
  generalize decide (z0 = z1) = same at HF HS
  clear r0 n0 l0 r1 n1 l1 r2 n2 l2 hT2 ex ey ez ev HZ
  have HG : Hid (W.grownBy W none) := World.grownBy.refl _ _
  go_enter Try.func6, Try.ntmps6
  go_wp2_with fail
  refine (HC0.out W HG.out).mono ?_
  rintro e w1 ⟨g1, c1, rfl, ho1, hg1⟩
  go_wp2_with fail
  refine (HC1.out w1 hg1).mono ?_
  rintro e w2 ⟨g2, c2, rfl, ho2, hg2⟩
  have HG2 : Hid (W.grownBy w2 none) := hg1.trans hg2
  go_wp2_with fail
  refine (HD.out g1 g2 c1 c2 z0 z1 w2 (ho1.rd.grown hg2 (by simp)) ho2.rd HL0.out HL1.out).mono ?_
  rintro e w3 ⟨rfl, hg3⟩
  rw [HX.out.1]
  have HG3 : Hid (W.grownBy w3 none) := HG2.out.trans hg3
  clear hg1 hg2 hg3 ho1 ho2 HG2
  go_wp2_with fail
  refine (HC1.out w3 HG3.out).mono ?_
  rintro e w4 ⟨g4, c4, rfl, ho4, hg4⟩
  go_wp2_with fail
  refine (HC0.out w4 (HG3.out.trans hg4)).mono ?_
  rintro e w5 ⟨g5, c5, rfl, ho5, hg5⟩
  have HG5 : Hid (W.grownBy w5 none) := (HG3.out.trans hg4).trans hg5
  go_wp2_with fail
  refine (HD.out g4 g5 c4 c5 z1 z0 w5 (ho4.rd.grown hg5 (by simp)) ho5.rd HL1.out HL0.out).mono ?_
  rintro e w6 ⟨rfl, hg6⟩
  rw [HX.out.2.1]
  have HG6 : Hid (W.grownBy w6 none) := HG5.out.trans hg6
  clear hg4 hg5 hg6 ho4 ho5 HG5 HG3
  go_wp2_with fail
  refine (HC1.out w6 HG6.out).mono ?_
  rintro e w7 ⟨g7, c7, rfl, ho7, hg7⟩
  go_wp2_with fail
  refine (HC2.out w7 (HG6.out.trans hg7)).mono ?_
  rintro e w8 ⟨g8, c8, rfl, ho8, hg8⟩
  have HG8 : Hid (W.grownBy w8 none) := (HG6.out.trans hg7).trans hg8
  go_wp2_with fail
  refine (HD.out g7 g8 c7 c8 z1 z2 w8 (ho7.rd.grown hg8 (by simp)) ho8.rd HL1.out HL2.out).mono ?_
  rintro e w9 ⟨rfl, hg9⟩
  rw [HX.out.2.2.1]
  have HG9 : Hid (W.grownBy w9 none) := HG8.out.trans hg9
  clear hg7 hg8 hg9 ho7 ho8 HG8 HG6
  go_wp2_with fail
  refine (HC0.out w9 HG9.out).mono ?_
  rintro e w10 ⟨g10, c10, rfl, ho10, hg10⟩
  go_wp2_with fail
  refine (HC2.out w10 (HG9.out.trans hg10)).mono ?_
  rintro e w11 ⟨g11, c11, rfl, ho11, hg11⟩
  have HG11 : Hid (W.grownBy w11 none) := (HG9.out.trans hg10).trans hg11
  go_wp2_with fail
  refine (HD.out g10 g11 c10 c11 z0 z2 w11 (ho10.rd.grown hg11 (by simp)) ho11.rd HL0.out HL2.out).mono ?_
  rintro e w12 ⟨rfl, hg12⟩
  rw [HX.out.2.2.2]
  have HG12 : Hid (W.grownBy w12 none) := HG11.out.trans hg12
  clear hg10 hg11 hg12 ho10 ho11 HG11 HG9
  have q1 : (x == x) = true := by simp
  have q2 : (x == -y) = true := by simp; omega
  have hF := HF.out
  go_wp2_with fail
  refine (HRf.out w12 HG12.out).mono ?_
  rintro e w13 ⟨rfl, hg13⟩
  have HG13 : Hid (W.grownBy w13 none) := HG12.out.trans hg13
  clear hg13 HG12
  go_wp2_with fail
  refine (HS.out w13 HG13.out).mono ?_
  rintro e w14 ⟨rfl, hg14⟩
  have HG14 : Hid (W.grownBy w14 none) := HG13.out.trans hg14
  have HAW : Hid (Calls Try.prog 20 #[] w14 fun e w' => e = .returned (.bool true) ∧ w14.grownBy w' none) := awake_lab w14
  clear hg14 HG13 HC0 HC1 HC2 HD HS HRf HF
  have hy : y = -1 ∨ y = 0 ∨ y = 1 := by omega
  have hz : z = -1 ∨ z = 0 ∨ z = 1 := by omega
  have hv : v = -1 ∨ v = 0 ∨ v = 1 := by omega
  have hsm : same = (-y == 0) := by
    cases same <;> cases hq : (-y == 0) <;> simp_all
  clear hF q1 q2 HX
  rcases hy with rfl | rfl | rfl <;> rcases hz with rfl | rfl | rfl <;> rcases hv with rfl | rfl | rfl
  all_goals first
    | (exfalso; omega)
    | (have hs' : same = true := by rw [hsm]; decide
       subst hs'
       clear hsm hT hT2' hx hxb hwb hzb
       go_wp2_with fail
       refine HAW.out.mono ?_
       rintro e w15 ⟨rfl, hg15⟩
       have HG15 : Hid (W.grownBy w15 none) := HG14.out.trans hg15
       clear hg15
       go_wp2
       go_ret
       exact ⟨rfl, gb_below HG15.out⟩)
    | (have hs' : same = false := by rw [hsm]; decide
       subst hs'
       clear hsm hT hT2' hx hxb hwb hzb
       go_wp2_with fail
       refine HAW.out.mono ?_
       rintro e w15 ⟨rfl, hg15⟩
       have HG15 : Hid (W.grownBy w15 none) := HG14.out.trans hg15
       clear hg15
       go_wp2
       go_ret
       exact ⟨rfl, gb_below HG15.out⟩)
end Go.Proofs.Ytailaehpgmpaaaa
