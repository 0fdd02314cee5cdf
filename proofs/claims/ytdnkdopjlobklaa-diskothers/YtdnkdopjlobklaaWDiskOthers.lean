/- Writes of one file change no other one; a renamed file keeps its bytes and what of them is synced. (Printed by mk_others2.py.) -/
import Derived.Test.YtdnkdopjlobklaaDk18
namespace Go.Proofs.Ytdnkdopjlobklaa
open Go.RowKit Go.Maps
set_option linter.unusedVariables false
set_option maxRecDepth 20000

set_option maxHeartbeats 8000000 in
theorem diskOthers_small (a0 : Option Addr) (z0 : List Int) (cap0 : Nat) (a1 : Option Addr) (z1 : List Int) (cap1 : Nat) (keep : Int) (W : World) (r0 : Rd W a0 z0) (n0 : a0 = none → cap0 = 0) (r1 : Rd W a1 z1) (n1 : a1 = none → cap1 = 0) (hc1 : z1.length ≤ cap1) (hsm : z0.length + z1.length ≤ 5000) (hk : -9223372036854775808 ≤ keep ∧ keep ≤ 9223372036854775807) :
    Calls Try.prog 7 #[.slice a0 z0.length cap0, .slice a1 z1.length cap1, .int .i64 keep] W fun e w' => e = .returned (.bool true) ∧ Below W.heap.size W w' := by
  have HC0 : Hid (∀ w, W.grownBy w none → Calls Try.prog 16 #[.slice a0 z0.length cap0] w fun e w' => ∃ g c, e = .returned (.slice (some ⟨g, 0, none⟩) z0.length c) ∧ Own w' w.heap.size g z0.length c z0 ∧ w.grownBy w' none) := fun w hg => copy_any a0 z0 cap0 w (r0.grown hg (by simp)) n0 (by omega)
  have HC1 : Hid (∀ w, W.grownBy w none → Calls Try.prog 16 #[.slice a1 z1.length cap1] w fun e w' => ∃ g c, e = .returned (.slice (some ⟨g, 0, none⟩) z1.length c) ∧ Own w' w.heap.size g z1.length c z1 ∧ w.grownBy w' none) := fun w hg => copy_any a1 z1 cap1 w (r1.grown hg (by simp)) n1 (by omega)
  have R0 : Hid (∀ w, W.grownBy w none → Rd w a0 z0) := fun w hg => r0.grown hg (by simp)
  have R1 : Hid (∀ w, W.grownBy w none → Rd w a1 z1) := fun w hg => r1.grown hg (by simp)
  have B0 : Hid (∀ z ∈ z0, 0 ≤ z ∧ z ≤ 255) := r0.2
  have B1 : Hid (∀ z ∈ z1, 0 ≤ z ∧ z ≤ 255) := r1.2
  have HK : Hid (-9223372036854775808 ≤ keep ∧ keep ≤ 9223372036854775807) := hk
  obtain ⟨kN, ekN⟩ : ∃ kN, kN = keptN keep z1.length := ⟨_, rfl⟩
  have hkN : kN ≤ z1.length := by rw [ekN]; exact keptN_le _ _
  have hkL : (kN : Int) = if 0 < keep then keep % ((z1.length : Int) + 1) else 0 := by rw [ekN]; exact keptN_law _ _
  have HXA : Hid (X6 z0 z1 keep nmA = some (z1.take kN, kN)) := by
    show _ = _
    rw [ekN]
    exact X6_a z0 z1 keep
  have HLT : Hid ((z1.take kN).length = kN) := by show _ = _; rw [List.length_take]; omega
  obtain ⟨L0, e0⟩ : ∃ L0, L0 = z0.length := ⟨_, rfl⟩
  obtain ⟨L1, e1⟩ : ∃ L1, L1 = z1.length := ⟨_, rfl⟩
  rw [← e0, ← e1] at hsm
  rw [← e1] at hkN hkL hc1 HC1
  rw [← e0] at HC0
  rw [← e0, ← e1]
  have E0 : Hid (z0.length = L0) := e0.symm
  have E1 : Hid (z1.length = L1) := e1.symm
  clear r0 n0 r1 n1 e0 e1 hk ekN
  have qsm : decide ((5000 : Int) < (L0 : Int) + (L1 : Int)) = false := by simp; omega
  have hL0 : (L0 : Int) ≤ 5000 := by omega
  have hL1 : (L1 : Int) ≤ 5000 := by omega
  go_enter Try.func7, Try.ntmps7
  go_wp2_with fail
  refine (o_new W).mono ?_
  rintro e w1 ⟨d, mb, rfl, hd1⟩
  have HD1 : Hid (OtAt W w1 d mb false 0 V0 []) := hd1
  clear hd1
  go_wp2_with fail
  refine (HC0.out w1 HD1.out.grow).mono ?_
  rintro e w2 ⟨g2, c2, rfl, ho2, hg2⟩
  have HO2 : Hid (Own w2 w1.heap.size g2 L0 c2 z0) := ho2
  have HG2 : Hid (w1.grownBy w2 none) := hg2
  clear ho2 hg2 HC0
  go_wp2_with fail
  refine (o_append W d mb g2 c2 0 V0 [] nmA z0 L0 w1 w2 HD1.out HO2.out HG2.out nameA rfl E0.out (by omega) (by omega)).mono ?_
  rintro e w3 ⟨rfl, hd3⟩
  have HD3 : Hid (OtAt W w3 d mb false 1 (X1 z0) []) := hd3
  clear hd3 HD1 HO2 HG2
  go_wp2_with fail
  refine (o_sync W d mb 1 (X1 z0) [] nmA z0 0 w3 HD3.out nameA (setV_same _ _ _) (by omega)).mono ?_
  rintro e w4 ⟨rfl, hd4⟩
  have HD4 : Hid (OtAt W w4 d mb false 2 (X2 z0) []) := hd4
  clear hd4 HD3
  go_wp2_with fail
  refine (HC1.out w4 HD4.out.grow).mono ?_
  rintro e w5 ⟨g5, c5, rfl, ho5, hg5⟩
  have HO5 : Hid (Own w5 w4.heap.size g5 L1 c5 z1) := ho5
  have HG5 : Hid (w4.grownBy w5 none) := hg5
  clear ho5 hg5 HC1
  go_wp2_with fail
  refine (o_append W d mb g5 c5 2 (X2 z0) [] nmB z1 L1 w4 w5 HD4.out HO5.out HG5.out nameBB (X2_b z0) E1.out (by omega) (by omega)).mono ?_
  rintro e w6 ⟨rfl, hd6⟩
  have HD6 : Hid (OtAt W w6 d mb false 3 (X3 z0 z1) []) := hd6
  clear hd6 HD4 HO5 HG5
  go_wp2_with fail
  refine (o_read W d mb 3 (X3 z0 z1) [] nmA z0 _ L0 w6 HD6.out nameA (X3_a z0 z1) E0.out).mono ?_
  rintro e w7 ⟨a7, c7, rfl, hd7⟩
  have HD7 : Hid (OtAt W w7 d mb false 3 (X3 z0 z1) [(a7, z0)]) := hd7
  clear hd7 HD6
  go_wp2_with fail
  refine (o_rename W d mb 3 (X3 z0 z1) [(a7, z0)] nmB nmC z1 0 w7 HD7.out nameBB nameCC (setV_same _ _ _) (by omega)).mono ?_
  rintro e w8 ⟨rfl, hd8⟩
  have HD8 : Hid (OtAt W w8 d mb false 4 (X4 z0 z1) [(a7, z0)]) := hd8
  clear hd8 HD7
  go_wp2_with fail
  refine (o_read W d mb 4 (X4 z0 z1) [(a7, z0)] nmC z1 0 L1 w8 HD8.out nameCC (setV_same _ _ _) E1.out).mono ?_
  rintro e w9 ⟨a9, c9, rfl, hd9⟩
  have HD9 : Hid (OtAt W w9 d mb false 4 (X4 z0 z1) [(a9, z1), (a7, z0)]) := hd9
  clear hd9 HD8
  go_wp2_with fail
  refine (o_readNot W d mb 4 (X4 z0 z1) [(a9, z1), (a7, z0)] nmB w9 HD9.out nameBB (X4_b z0 z1)).mono ?_
  rintro e w10 ⟨rfl, hd10⟩
  have HD10 : Hid (OtAt W w10 d mb false 4 (X4 z0 z1) [(a9, z1), (a7, z0)]) := hd10
  clear hd10 HD9
  go_wp2_with fail
  refine (o_rename W d mb 4 (X4 z0 z1) [(a9, z1), (a7, z0)] nmC nmA z1 0 w10 HD10.out nameCC nameA (setV_same _ _ _) (by omega)).mono ?_
  rintro e w11 ⟨rfl, hd11⟩
  have HD11 : Hid (OtAt W w11 d mb false 5 (X5 z0 z1) [(a9, z1), (a7, z0)]) := hd11
  clear hd11 HD10
  go_wp2_with fail
  refine (o_read W d mb 5 (X5 z0 z1) [(a9, z1), (a7, z0)] nmA z1 0 L1 w11 HD11.out nameA (setV_same _ _ _) E1.out).mono ?_
  rintro e w12 ⟨a12, c12, rfl, hd12⟩
  have HD12 : Hid (OtAt W w12 d mb false 5 (X5 z0 z1) [(a12, z1), (a9, z1), (a7, z0)]) := hd12
  clear hd12 HD11
  go_wp2_with fail
  refine (o_off W d mb 5 (X5 z0 z1) [(a12, z1), (a9, z1), (a7, z0)] keep w12 HD12.out HK.out).mono ?_
  rintro e w13 ⟨rfl, hd13⟩
  have HD13 : Hid (OtAt W w13 d mb true 5 (X6 z0 z1 keep) [(a12, z1), (a9, z1), (a7, z0)]) := hd13
  clear hd13 HD12
  go_wp2_with fail
  refine (o_on W d mb 5 (X6 z0 z1 keep) [(a12, z1), (a9, z1), (a7, z0)] w13 HD13.out).mono ?_
  rintro e w14 ⟨rfl, hd14⟩
  have HD14 : Hid (OtAt W w14 d mb false 5 (X6 z0 z1 keep) [(a12, z1), (a9, z1), (a7, z0)]) := hd14
  clear hd14 HD13
  go_wp2_with fail
  refine (o_read W d mb 5 (X6 z0 z1 keep) [(a12, z1), (a9, z1), (a7, z0)] nmA (z1.take kN) kN kN w14 HD14.out nameA HXA.out HLT.out).mono ?_
  rintro e w15 ⟨a15, c15, rfl, hd15⟩
  have HD15 : Hid (OtAt W w15 d mb false 5 (X6 z0 z1 keep) [(a15, z1.take kN), (a12, z1), (a9, z1), (a7, z0)]) := hd15
  clear hd15 HD14
  have HG15 : Hid (W.grownBy w15 none) := HD15.out.grow
  have HX1 : Hid (∀ w, w15.grownBy w none → Calls Try.prog 22 #[.slice a7 L0 c7, .slice a0 L0 cap0] w fun e w' => e = .returned (.bool true) ∧ w15.grownBy w' none) := by
    intro w hg
    refine (same_any a7 a0 z0 z0 L0 L0 c7 cap0 w ((HD15.out.kept hg).rd (by simp) B0.out) (R0.out w (HG15.out.trans hg)) E0.out E0.out (by omega)).mono ?_
    rintro e w' ⟨rfl, hg'⟩
    exact ⟨by simp, hg.trans hg'⟩
  have HX2 : Hid (∀ w, w15.grownBy w none → Calls Try.prog 22 #[.slice a9 L1 c9, .slice a1 L1 cap1] w fun e w' => e = .returned (.bool true) ∧ w15.grownBy w' none) := by
    intro w hg
    refine (same_any a9 a1 z1 z1 L1 L1 c9 cap1 w ((HD15.out.kept hg).rd (by simp) B1.out) (R1.out w (HG15.out.trans hg)) E1.out E1.out (by omega)).mono ?_
    rintro e w' ⟨rfl, hg'⟩
    exact ⟨by simp, hg.trans hg'⟩
  have HX3 : Hid (∀ w, w15.grownBy w none → Calls Try.prog 22 #[.slice a12 L1 c12, .slice a1 L1 cap1] w fun e w' => e = .returned (.bool true) ∧ w15.grownBy w' none) := by
    intro w hg
    refine (same_any a12 a1 z1 z1 L1 L1 c12 cap1 w ((HD15.out.kept hg).rd (by simp) B1.out) (R1.out w (HG15.out.trans hg)) E1.out E1.out (by omega)).mono ?_
    rintro e w' ⟨rfl, hg'⟩
    exact ⟨by simp, hg.trans hg'⟩
  have HX4 : Hid (∀ w, w15.grownBy w none → Calls Try.prog 22 #[.slice a15 kN c15, .slice a1 kN cap1] w fun e w' => e = .returned (.bool true) ∧ w15.grownBy w' none) := by
    intro w hg
    have hbt : ∀ z ∈ z1.take kN, 0 ≤ z ∧ z ≤ 255 := fun z hz => B1.out z (List.mem_of_mem_take hz)
    refine (same_any a15 a1 (z1.take kN) (z1.take kN) kN kN c15 cap1 w ((HD15.out.kept hg).rd (by simp) hbt) (srd_rd (srd_take (rd_srd (R1.out w (HG15.out.trans hg))) kN) hbt) HLT.out HLT.out (by omega)).mono ?_
    rintro e w' ⟨rfl, hg'⟩
    exact ⟨by simp, hg.trans hg'⟩
  have HLI : Hid (∀ w, w15.grownBy w none → Calls Try.prog 27 #[.pointer (some ⟨d, 0, none⟩), .string ⟨#[]⟩] w fun e w' => ∃ a c, e = .returned (.slice a 1 c) ∧ SRd strE w' a [nmA] ∧ w15.grownBy w' none) := by
    intro w hg
    refine (o_list W d mb 5 (X6 z0 z1 keep) _ _ w (HD15.out.kept hg) HXA.out (X6_o z0 z1 keep)).mono ?_
    rintro e w' ⟨a, c, rfl, h1, h2⟩
    exact ⟨a, c, rfl, h1, hg.trans h2⟩
  have hkc : (kN : Int) ≤ (cap1 : Int) := by omega
  have hk0 : (0 : Int) ≤ (kN : Int) := by omega
  clear HD15 R0 R1 HXA
  by_cases hpos : 0 < keep
  · have qp : decide (0 < keep) = true := by simpa using hpos
    rw [if_pos hpos] at hkL
    have hkL' : keep % ((L1 : Int) + 1) = (kN : Int) := hkL.symm
    clear hkL
    go_wp2_with fail
    refine (HX1.out _ (World.grownBy.refl _ _)).mono ?_
    rintro e w16 ⟨rfl, hg16⟩
    have HG16 : Hid (w15.grownBy w16 none) := hg16
    clear hg16 HX1
    go_wp2_with fail
    refine (HX2.out _ HG16.out).mono ?_
    rintro e w17 ⟨rfl, hg17⟩
    have HG17 : Hid (w15.grownBy w17 none) := hg17
    clear hg17 HX2 HG16
    go_wp2_with fail
    refine (HX3.out _ HG17.out).mono ?_
    rintro e w18 ⟨rfl, hg18⟩
    have HG18 : Hid (w15.grownBy w18 none) := hg18
    clear hg18 HX3 HG17
    go_wp2_with fail
    refine (HX4.out _ HG18.out).mono ?_
    rintro e w19 ⟨rfl, hg19⟩
    have HG19 : Hid (w15.grownBy w19 none) := hg19
    clear hg19 HX4 HG18
    go_wp2_with fail
    refine (HLI.out _ HG19.out).mono ?_
    rintro e w20 ⟨a20, c20, rfl, hr20, hg20⟩
    have HR20 : Hid (SRd strE w20 a20 [nmA]) := hr20
    have HG20 : Hid (w15.grownBy w20 none) := hg20
    clear hr20 hg20 HLI HG19
    have HGL : Hid (w20.grownBy (w20.alloc (.cells #[.string ⟨#[97]⟩] 9)) none) := World.grownBy_alloc w20 _ none
    go_wp2_with fail
    refine (same1 a20 _ c20 _ _ (HR20.out.grown HGL.out (by simp)) (slit w20 [nmA])).mono ?_
    rintro e w21 ⟨rfl, hg21⟩
    have HG21 : Hid (w15.grownBy w21 none) := (HG20.out.trans HGL.out).trans hg21
    clear hg21 HR20 HG20 HGL
    go_wp2_with fail
    refine (awake_disk w21).mono ?_
    rintro e w22 ⟨rfl, hg22⟩
    have HG22 : Hid (W.grownBy w22 none) := (HG15.out.trans HG21.out).trans hg22
    clear hg22
    go_wp2
    go_ret
    exact ⟨rfl, gb_below HG22.out⟩
  · have qp : decide (0 < keep) = false := by simpa using hpos
    rw [if_neg hpos] at hkL
    obtain rfl : kN = 0 := by omega
    clear hkL
    go_wp2_with fail
    refine (HX1.out _ (World.grownBy.refl _ _)).mono ?_
    rintro e w16 ⟨rfl, hg16⟩
    have HG16 : Hid (w15.grownBy w16 none) := hg16
    clear hg16 HX1
    go_wp2_with fail
    refine (HX2.out _ HG16.out).mono ?_
    rintro e w17 ⟨rfl, hg17⟩
    have HG17 : Hid (w15.grownBy w17 none) := hg17
    clear hg17 HX2 HG16
    go_wp2_with fail
    refine (HX3.out _ HG17.out).mono ?_
    rintro e w18 ⟨rfl, hg18⟩
    have HG18 : Hid (w15.grownBy w18 none) := hg18
    clear hg18 HX3 HG17
    go_wp2_with fail
    refine (HX4.out _ HG18.out).mono ?_
    rintro e w19 ⟨rfl, hg19⟩
    have HG19 : Hid (w15.grownBy w19 none) := hg19
    clear hg19 HX4 HG18
    go_wp2_with fail
    refine (HLI.out _ HG19.out).mono ?_
    rintro e w20 ⟨a20, c20, rfl, hr20, hg20⟩
    have HR20 : Hid (SRd strE w20 a20 [nmA]) := hr20
    have HG20 : Hid (w15.grownBy w20 none) := hg20
    clear hr20 hg20 HLI HG19
    have HGL : Hid (w20.grownBy (w20.alloc (.cells #[.string ⟨#[97]⟩] 9)) none) := World.grownBy_alloc w20 _ none
    go_wp2_with fail
    refine (same1 a20 _ c20 _ _ (HR20.out.grown HGL.out (by simp)) (slit w20 [nmA])).mono ?_
    rintro e w21 ⟨rfl, hg21⟩
    have HG21 : Hid (w15.grownBy w21 none) := (HG20.out.trans HGL.out).trans hg21
    clear hg21 HR20 HG20 HGL
    go_wp2_with fail
    refine (awake_disk w21).mono ?_
    rintro e w22 ⟨rfl, hg22⟩
    have HG22 : Hid (W.grownBy w22 none) := (HG15.out.trans HG21.out).trans hg22
    clear hg22
    go_wp2
    go_ret
    exact ⟨rfl, gb_below HG22.out⟩
set_option maxHeartbeats 4000000 in
theorem diskOthers_big (a0 : Option Addr) (z0 : List Int) (cap0 : Nat) (a1 : Option Addr) (z1 : List Int) (cap1 : Nat) (keep : Int) (W : World) (l0 : z0.length ≤ 140737488351232) (l1 : z1.length ≤ 140737488351232) (hsm : 5000 < z0.length + z1.length) :
    Calls Try.prog 7 #[.slice a0 z0.length cap0, .slice a1 z1.length cap1, .int .i64 keep] W fun e w' => e = .returned (.bool true) ∧ Below W.heap.size W w' := by
  obtain ⟨L0, e0⟩ : ∃ L0, L0 = z0.length := ⟨_, rfl⟩
  obtain ⟨L1, e1⟩ : ∃ L1, L1 = z1.length := ⟨_, rfl⟩
  rw [← e0, ← e1] at hsm
  rw [← e0] at l0
  rw [← e1] at l1
  rw [← e0, ← e1]
  have qsm : decide ((5000 : Int) < (L0 : Int) + (L1 : Int)) = true := by simp; omega
  clear e0 e1
  go_enter Try.func7, Try.ntmps7
  go_wp2_with fail
  refine (v_new W).mono ?_
  rintro e w1 ⟨d, mb, B, rfl, _, hg1, _⟩
  have HG1 : Hid (W.grownBy w1 none) := hg1
  clear hg1
  go_wp2_with fail
  refine (awake_disk w1).mono ?_
  rintro e w2 ⟨rfl, hg2⟩
  have HG2 : Hid (W.grownBy w2 none) := HG1.out.trans hg2
  clear hg2
  go_wp2
  go_ret
  exact ⟨rfl, gb_below HG2.out⟩
theorem diskOthers_walk (a0 : Option Addr) (z0 : List Int) (cap0 : Nat) (a1 : Option Addr) (z1 : List Int) (cap1 : Nat) (keep : Int) (W : World) (r0 : Rd W a0 z0) (n0 : a0 = none → cap0 = 0) (l0 : z0.length ≤ 140737488351232) (r1 : Rd W a1 z1) (n1 : a1 = none → cap1 = 0) (l1 : z1.length ≤ 140737488351232) (hc1 : z1.length ≤ cap1) (w2 : (Lit.int .i64 keep).wf = true) :
    Calls Try.prog 7 #[.slice a0 z0.length cap0, .slice a1 z1.length cap1, .int .i64 keep] W fun e w' => e = .returned (.bool true) ∧ Below W.heap.size W w' := by
  have hk : -9223372036854775808 ≤ keep ∧ keep ≤ 9223372036854775807 := by
    simp only [Lit.wf, Bool.and_eq_true, decide_eq_true_eq] at w2
    exact w2
  by_cases hsm : z0.length + z1.length ≤ 5000
  · exact diskOthers_small a0 z0 cap0 a1 z1 cap1 keep W r0 n0 r1 n1 hc1 hsm hk
  · exact diskOthers_big a0 z0 cap0 a1 z1 cap1 keep W l0 l1 (by omega)
end Go.Proofs.Ytdnkdopjlobklaa
