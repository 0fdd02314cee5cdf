/- Unequal says the opposite of equal, unlike of like; a list says what all of it say. -/
import Derived.Test.YtbncglhgllialaaDoorOpp
namespace Go.Proofs.YtbncglhgllialaaDoor
open Go.ChangeShapes Go.WideShapes Go.ChangeAt Go.RowKit
set_option linter.unusedVariables false

set_option maxHeartbeats 8000000 in
theorem matchOpposites_walk (a0 : Option Addr) (z0 : List Mat) (cap0 : Nat) (a1 : Option Addr) (z1 : List Lab) (cap1 : Nat) (x : Int) (W : World)
    (r0 : SRd matE W a0 z0) (n0 : a0 = none → cap0 = 0) (l0 : z0.length ≤ 3518437208780) (cc0 : z0.length ≤ cap0) (s0 : ∀ q ∈ z0, SmallMat q) (r1 : SRd labE W a1 z1) (n1 : a1 = none → cap1 = 0) (l1 : z1.length ≤ 4398046510976) (s1 : ∀ q ∈ z1, SmallLab q) (wx : (Lit.int .i64 x).wf = true) (u0 : ∀ q ∈ z0, q.2.2.size ≤ 2147483648) (u1 : ∀ q ∈ z1, q.2.size ≤ 2147483648) (hm : Mx W) :
    Calls Tryd.prog 6 #[.slice a0 z0.length cap0, .slice a1 z1.length cap1, .int .i64 x] W fun e w' => e = .returned (.bool true) ∧ Below W.heap.size W w' := by
  have HV0 : Hid (∀ m ∈ z0, m.2.2.size ≤ 2147483648) := u0
  have HMX : Hid (Mx W) := hm
  have HCp : Hid (∀ w, W.grownBy w none → Calls Tryd.prog 18 #[.slice a1 z1.length cap1] w fun e w' => ∃ g c, e = .returned (.slice (some ⟨g, 0, none⟩) z1.length c) ∧ LOwn w' w.heap.size g z1.length c z1 ∧ w.grownBy w' none) := fun w hg => lcopy a1 z1 _ cap1 w (r1.grown hg (by simp)) rfl n1 (by omega)
  have HCm : Hid (∀ (a : Option Addr) (zs : List Mat) (n c : Nat) (w : World), SRd matE w a zs → zs.length = n → (a = none → c = 0) → n ≤ 3518437208780 → Calls Tryd.prog 21 #[.slice a n c] w fun e w' => ∃ g c', e = .returned (.slice (some ⟨g, 0, none⟩) n c') ∧ MOwn w' w.heap.size g n c' zs ∧ w.grownBy w' none) := fun a zs n c w h hl hn hz => mcopy a zs n c w h hl hn (by omega)
  have HSay : Hid (∀ (a : Option Addr) (zs : List Mat) (n c g d : Nat) (R : Bool) (w : World), Mx w → SRd matE w a zs → zs.length = n → n ≤ 3518437208780 → (∀ m ∈ zs, m.2.2.size ≤ 2147483648) → SRd labE w (some ⟨g, 0, none⟩) z1 → saysR zs z1 = R → Calls Tryd.prog 10 #[.slice a n c, .slice (some ⟨g, 0, none⟩) z1.length d] w fun e w' => e = .returned (.bool R) ∧ w.grownBy w' none) := fun a zs n c g d R w mw h hl hz hv h1 hR => f_says a _ zs z1 n _ c d R w h h1 hl rfl (by omega) (by omega) hv u1 mw hR
  have HMap : Hid (∀ (k : Int) (w : World), Calls Tryd.prog 19 #[.int .i64 k] w fun e w' => e = .returned (.int .i64 (oppK k)) ∧ w.grownBy w' none) := r_map4
  have HLow : Hid (∀ w, Calls Tryd.prog 20 #[.int .i64 x] w fun e w' => ∃ r, e = .returned (.int .i64 r) ∧ 0 ≤ r ∧ r ≤ 9223372036854775807 ∧ w = w') := Low_any x
  have HA : Hid (∀ w, Mx w → Calls Tryd.prog 15 #[] w fun e w' => e = .returned (.bool true) ∧ w.grownBy w' none) := awake_mat
  have HR0 : Hid (∀ w, W.grownBy w none → SRd matE w a0 z0) := fun w hg => r0.grown hg (by simp)
  have HAt : Hid (∀ k, k < z0.length → ∃ b off x0 x1 x2, a0 = some ⟨b, off, none⟩ ∧ W.cell? ⟨b, off + k * 3, none⟩ = some (.int .i64 x0) ∧ W.cell? ⟨b, off + k * 3 + 1, none⟩ = some (.string x1) ∧ W.cell? ⟨b, off + k * 3 + 2, none⟩ = some (.string x2) ∧ z0[k]? = some (x0, x1, x2)) := fun k hk => by
    obtain ⟨b, off, rfl, hc⟩ := r0.at (by omega)
    obtain ⟨⟨x0, x1, x2⟩, ex⟩ : ∃ q, z0[k]? = some q := ⟨_, List.getElem?_eq_getElem hk⟩
    exact ⟨b, off, x0, x1, x2, rfl, by exact hc k _ 0 _ ex rfl, by rw [Nat.add_assoc]; exact hc k _ 1 _ ex rfl, by rw [Nat.add_assoc]; exact hc k _ 2 _ ex rfl, ex⟩
  obtain ⟨L, eL⟩ : ∃ L, L = z0.length := ⟨_, rfl⟩
  obtain ⟨M, eM⟩ : ∃ M, M = z1.length := ⟨_, rfl⟩
  have HL0 : Hid (z0.length = L) := eL.symm
  rw [← eL] at HAt l0 cc0 ⊢
  rw [← eM] at HCp HSay ⊢
  obtain ⟨T, eT⟩ : ∃ T, saysR z0 z1 = T := ⟨_, rfl⟩
  have HT : Hid (saysR z0 z1 = T) := eT
  clear r0 r1 n1 eL eM s0 s1 l1 eT wx u0 u1 hm
  go_enter Tryd.func6, Tryd.ntmps6
  go_wp2
  go_loopw [7, 8] (fun t7 t8 wr => ∃ (k : Nat) (A : Bool), k ≤ L ∧ t7 = .bool A ∧ t8 = .int .i64 k ∧ W.grownBy wr none ∧ saysR (z0.take k) z1 = A) (fun _ t8 _ => L - (intOf t8).toNat)
  case atStart => exact ⟨0, true, Nat.zero_le _, rfl, rfl, World.grownBy.refl _ _, by simp [saysR]⟩
  case round =>
    obtain ⟨k, A, hk, rfl, rfl, hg, hA⟩ := hrel
    have HG : Hid (W.grownBy wr none) := hg
    clear hg
    by_cases hlt : k < L
    · obtain ⟨b, off, x0, x1, x2, ea, hc0, hc1, hc2, hat⟩ := HAt.out k hlt
      subst ea
      obtain ⟨R1, eR1⟩ : ∃ R, saysR [(x0, x1, x2)] z1 = R := ⟨_, rfl⟩
      have HR1 : Hid (saysR [(x0, x1, x2)] z1 = R1) := eR1
      have HV1 : Hid (∀ m ∈ [((x0, x1, x2) : Mat)], m.2.2.size ≤ 2147483648) := fun m hq => by
        rw [List.mem_singleton.1 hq]
        exact HV0.out _ (List.mem_of_getElem? hat)
      have HV2 : Hid (∀ m ∈ [((oppK x0, x1, x2) : Mat)], m.2.2.size ≤ 2147483648) := fun m hq => by
        rw [List.mem_singleton.1 hq]
        exact HV1.out (x0, x1, x2) (by simp)
      have HA2 : Hid (saysR (z0.take (k + 1)) z1 = (A && R1)) := by show _ = _; rw [says_next hat, hA, eR1]
      have b0 : wr.cell? ⟨b, off + k * 3, none⟩ = some (.int .i64 x0) := HG.out.cell hc0 (by simp)
      have b1 : wr.cell? ⟨b, off + k * 3 + 1, none⟩ = some (.string x1) := HG.out.cell hc1 (by simp)
      have b2 : wr.cell? ⟨b, off + k * 3 + 2, none⟩ = some (.string x2) := HG.out.cell hc2 (by simp)
      have hki : (k : Int) < (L : Int) := by omega
      have hml := mlit wr [(x0, x1, x2)]
      have hal := World.grownBy_alloc wr (.cells (matE.flat [(x0, x1, x2)]).toArray 35) none
      have HAL : Hid (wr.grownBy (wr.alloc (.cells (matE.flat [(x0, x1, x2)]).toArray 35)) none) := hal
      have HML : Hid (SRd matE (wr.alloc (.cells (matE.flat [(x0, x1, x2)]).toArray 35)) (some ⟨wr.heap.size, 0, none⟩) [(x0, x1, x2)]) := hml
      clear hml hal hc0 hc1 hc2 hat eR1 hA
      go_wp2_with fail
      refine (HCp.out _ (HG.out.trans HAL.out)).mono ?_
      rintro e u1 ⟨g1, c1, rfl, ho1, hg1⟩
      have HO1 : Hid (LOwn u1 _ g1 M c1 z1) := ho1
      have HG1 : Hid (wr.grownBy u1 none) := HAL.out.trans hg1
      have HM1 : Hid (SRd matE u1 (some ⟨wr.heap.size, 0, none⟩) [(x0, x1, x2)]) := HML.out.grown hg1 (by simp)
      clear ho1 hg1 HML HAL
      go_wp2_with fail
      refine (HSay.out _ [(x0, x1, x2)] 1 1 g1 c1 R1 u1 (HMX.out.grown (HG.out.trans HG1.out)) HM1.out rfl (by omega) HV1.out HO1.out.rd HR1.out).mono ?_
      rintro e u2 ⟨rfl, hg2⟩
      have HG2 : Hid (wr.grownBy u2 none) := HG1.out.trans hg2
      clear hg2 HM1 HO1 HG1 HV1
      have e0 : u2.cell? ⟨b, off + k * 3, none⟩ = some (.int .i64 x0) := HG2.out.cell b0 (by simp)
      cases A
      all_goals (
        go_wp2_with fail
        refine (HMap.out x0 _).mono ?_
        rintro e u3 ⟨rfl, hg3⟩
        have HG3 : Hid (wr.grownBy u3 none) := HG2.out.trans hg3
        have HU3 : Hid (W.grownBy u3 none) := HG.out.trans HG3.out
        clear hg3 e0 HG2
        by_cases ho : oppK x0 = 0
        · have hR : R1 = false := by rw [← HR1.out, says_one]; exact opp_none ho _ _ _
          subst hR
          have q0 : (oppK x0 == 0) = true := by simpa using ho
          clear ho
          go_wp2
          go_roundw
          case rel => exact ⟨k + 1, _, by omega, rfl, by go_num, HU3.out, HA2.out⟩
          case measure => simp [intOf]; omega
        · have q0 : (oppK x0 == 0) = false := by simpa using ho
          have HR2 : Hid (saysR [(oppK x0, x1, x2)] z1 = !R1) := by show _ = _; rw [← HR1.out, says_one, says_one]; exact opp_not ho _ _ _
          have a0 : u3.cell? ⟨b, off + k * 3, none⟩ = some (.int .i64 x0) := HG3.out.cell b0 (by simp)
          have a1 : u3.cell? ⟨b, off + k * 3 + 1, none⟩ = some (.string x1) := HG3.out.cell b1 (by simp)
          have a2 : u3.cell? ⟨b, off + k * 3 + 2, none⟩ = some (.string x2) := HG3.out.cell b2 (by simp)
          have qn : ((!R1) == R1) = false := by cases R1 <;> rfl
          clear ho b0 b1 b2
          go_wp2
          refine wp_region_held_drew (S := fun w' => u3.grownBy w' none) (by kernel_rfl) (gb_drew (World.grownBy.refl u3 none)) (fun hSS => ?_)
          refine draw_takeS 0 (v := ?_) rfl (by kernel_rfl) (by kernel_rfl) (by kernel_rfl) (fun _ _ _ h => h) (by rfl) hSS ?_ ?_
          rotate_left
          · intro w hS; have d0 := hS.cell a0 (by simp); have d1 := hS.cell a1 (by simp); have d2 := hS.cell a2 (by simp); go_simp; try with_reducible rfl
          try simp only [Act.put, List.setIfInBounds_toArray, List.set_cons_zero, List.set_cons_succ]
          refine draw_takeS 1 (v := ?_) rfl (by kernel_rfl) (by kernel_rfl) (by kernel_rfl) (fun _ _ _ h => h) (by rfl) hSS ?_ ?_
          rotate_left
          · intro w hS; have d0 := hS.cell a0 (by simp); have d1 := hS.cell a1 (by simp); have d2 := hS.cell a2 (by simp); go_simp; try with_reducible rfl
          try simp only [Act.put, List.setIfInBounds_toArray, List.set_cons_zero, List.set_cons_succ]
          refine draw_takeS 2 (v := ?_) rfl (by kernel_rfl) (by kernel_rfl) (by kernel_rfl) (fun _ _ _ h => h) (by rfl) hSS ?_ ?_
          rotate_left
          · intro w hS; have d0 := hS.cell a0 (by simp); have d1 := hS.cell a1 (by simp); have d2 := hS.cell a2 (by simp); go_simp; try with_reducible rfl
          try simp only [Act.put, List.setIfInBounds_toArray, List.set_cons_zero, List.set_cons_succ]
          refine draw_takeS 3 (v := ?_) rfl (by kernel_rfl) (by kernel_rfl) (by kernel_rfl) (fun _ _ _ h => h) (by rfl) hSS ?_ ?_
          rotate_left
          · intro w hS; have d0 := hS.cell a0 (by simp); have d1 := hS.cell a1 (by simp); have d2 := hS.cell a2 (by simp); go_simp; try with_reducible rfl
          try simp only [Act.put, List.setIfInBounds_toArray, List.set_cons_zero, List.set_cons_succ]
          refine draw_takeS 4 (v := ?_) rfl (by kernel_rfl) (by kernel_rfl) (by kernel_rfl) (fun _ _ _ h => h) (by rfl) hSS ?_ ?_
          rotate_left
          · intro w hS; have d0 := hS.cell a0 (by simp); have d1 := hS.cell a1 (by simp); have d2 := hS.cell a2 (by simp); go_simp; try with_reducible rfl
          try simp only [Act.put, List.setIfInBounds_toArray, List.set_cons_zero, List.set_cons_succ]
          refine draw_takeS 5 (v := ?_) rfl (by kernel_rfl) (by kernel_rfl) (by kernel_rfl) (fun _ _ _ h => h) (by rfl) hSS ?_ ?_
          rotate_left
          · intro w hS; have d0 := hS.cell a0 (by simp); have d1 := hS.cell a1 (by simp); have d2 := hS.cell a2 (by simp); go_simp; try with_reducible rfl
          try simp only [Act.put, List.setIfInBounds_toArray, List.set_cons_zero, List.set_cons_succ]
          refine draw_takeS 6 (v := ?_) rfl (by kernel_rfl) (by kernel_rfl) (by kernel_rfl) (fun _ _ _ h => h) (by rfl) hSS ?_ ?_
          rotate_left
          · intro w hS; have d0 := hS.cell a0 (by simp); have d1 := hS.cell a1 (by simp); have d2 := hS.cell a2 (by simp); go_simp; try with_reducible rfl
          try simp only [Act.put, List.setIfInBounds_toArray, List.set_cons_zero, List.set_cons_succ]
          refine draw_takeS 7 (v := ?_) rfl (by kernel_rfl) (by kernel_rfl) (by kernel_rfl) (fun _ _ _ h => h) (by rfl) hSS ?_ ?_
          rotate_left
          · intro w hS; have d0 := hS.cell a0 (by simp); have d1 := hS.cell a1 (by simp); have d2 := hS.cell a2 (by simp); go_simp; try with_reducible rfl
          try simp only [Act.put, List.setIfInBounds_toArray, List.set_cons_zero, List.set_cons_succ]
          refine draw_takeS 8 (v := ?_) rfl (by kernel_rfl) (by kernel_rfl) (by kernel_rfl) (fun _ _ _ h => h) (by rfl) hSS ?_ ?_
          rotate_left
          · intro w hS; have d0 := hS.cell a0 (by simp); have d1 := hS.cell a1 (by simp); have d2 := hS.cell a2 (by simp); go_simp; try with_reducible rfl
          try simp only [Act.put, List.setIfInBounds_toArray, List.set_cons_zero, List.set_cons_succ]
          refine draw_takeS 9 (v := ?_) rfl (by kernel_rfl) (by kernel_rfl) (by kernel_rfl) (fun _ _ _ h => h) (by rfl) hSS ?_ ?_
          rotate_left
          · intro w hS; have d0 := hS.cell a0 (by simp); have d1 := hS.cell a1 (by simp); have d2 := hS.cell a2 (by simp); go_simp; try with_reducible rfl
          try simp only [Act.put, List.setIfInBounds_toArray, List.set_cons_zero, List.set_cons_succ]
          refine draw_takeS 10 (v := ?_) rfl (by kernel_rfl) (by kernel_rfl) (by kernel_rfl) (fun _ _ _ h => h) (by rfl) hSS ?_ ?_
          rotate_left
          · intro w hS; have d0 := hS.cell a0 (by simp); have d1 := hS.cell a1 (by simp); have d2 := hS.cell a2 (by simp); go_simp; try with_reducible rfl
          try simp only [Act.put, List.setIfInBounds_toArray, List.set_cons_zero, List.set_cons_succ]
          refine draw_takeS 11 (v := ?_) rfl (by kernel_rfl) (by kernel_rfl) (by kernel_rfl) (fun _ _ _ h => h) (by rfl) hSS ?_ ?_
          rotate_left
          · intro w hS; have d0 := hS.cell a0 (by simp); have d1 := hS.cell a1 (by simp); have d2 := hS.cell a2 (by simp); go_simp; try with_reducible rfl
          try simp only [Act.put, List.setIfInBounds_toArray, List.set_cons_zero, List.set_cons_succ]
          refine draw_takeS 13 (v := ?_) rfl (by kernel_rfl) (by kernel_rfl) (by kernel_rfl) (fun _ _ _ h => h) (by rfl) hSS ?_ ?_
          rotate_left
          · intro w hS; have d0 := hS.cell a0 (by simp); have d1 := hS.cell a1 (by simp); have d2 := hS.cell a2 (by simp); go_simp; try with_reducible rfl
          try simp only [Act.put, List.setIfInBounds_toArray, List.set_cons_zero, List.set_cons_succ]
          refine draw_takeS 16 (v := ?_) rfl (by kernel_rfl) (by kernel_rfl) (by kernel_rfl) (fun _ _ _ h => h) (by rfl) hSS ?_ ?_
          rotate_left
          · intro w hS; have d0 := hS.cell a0 (by simp); have d1 := hS.cell a1 (by simp); have d2 := hS.cell a2 (by simp); go_simp; try with_reducible rfl
          try simp only [Act.put, List.setIfInBounds_toArray, List.set_cons_zero, List.set_cons_succ]
          refine draw_twoS 12 14 rfl rfl (by kernel_rfl) (by rfl) (by rfl) (fun K hK => ?_) (fun K hK => ?_)
          · go_simp
            refine hK.out _ _ (hSS.trans (World.grownBy_alloc _ _ none)) ?_
            clear hK K
            try simp only [Act.put, List.setIfInBounds_toArray, List.set_cons_zero, List.set_cons_succ]
            have hml := mlit u3.drew [(oppK x0, x1, x2)]
            have hSS2 := hSS.trans (World.grownBy_alloc u3.drew (.cells (matE.flat [(oppK x0, x1, x2)]).toArray 35) none)
            clear hSS
            have hSS := hSS2
            clear hSS2
            refine draw_oneS 14 rfl (by kernel_rfl) (by rfl) (fun K hK => ?_)
            go_simp
            refine (HCp.out _ (HU3.out.trans hSS)).mono ?_
            rintro e u4 ⟨gl, cl, rfl, hol, hgl⟩
            have hml2 := hml.grown hgl (by simp)
            have hSS2 := hSS.trans hgl
            clear hSS
            have hSS := hSS2
            clear hSS2
            refine hK.out _ _ hSS ?_
            clear hK K
            try simp only [Act.put, List.setIfInBounds_toArray, List.set_cons_zero, List.set_cons_succ]
            refine draw_oneS 15 rfl (by kernel_rfl) (by rfl) (fun K hK => ?_)
            go_simp
            refine (HSay.out _ [(oppK x0, x1, x2)] 1 1 gl cl (!R1) u4 (HMX.out.grown (HU3.out.trans hSS)) hml2 rfl (by omega) HV2.out hol.rd HR2.out).mono ?_
            rintro e u5 ⟨rfl, hg5⟩
            have hSS2 := hSS.trans hg5
            clear hSS
            have hSS := hSS2
            clear hSS2
            refine hK.out _ _ hSS ?_
            clear hK K
            try simp only [Act.put, List.setIfInBounds_toArray, List.set_cons_zero, List.set_cons_succ]
            refine draw_takeS 17 (v := ?_) rfl (by kernel_rfl) (by kernel_rfl) (by kernel_rfl) (fun _ _ _ h => h) (by rfl) hSS ?_ ?_
            rotate_left
            · intro w hS; go_simp; try with_reducible rfl
            try simp only [Act.put, List.setIfInBounds_toArray, List.set_cons_zero, List.set_cons_succ]
            refine wpAnyH_done (by kernel_rfl) ?_ _
            have HU5 : Hid (W.grownBy u5 none) := HU3.out.trans hSS
            clear hSS
            go_wp2
            go_roundw
            case rel => exact ⟨k + 1, _, by omega, rfl, by go_num, HU5.out, HA2.out⟩
            case measure => simp [intOf]; omega
          · go_simp
            refine (HCp.out _ (HU3.out.trans hSS)).mono ?_
            rintro e u4 ⟨gl, cl, rfl, hol, hgl⟩
            have hSS2 := hSS.trans hgl
            clear hSS
            have hSS := hSS2
            clear hSS2
            refine hK.out _ _ hSS ?_
            clear hK K
            try simp only [Act.put, List.setIfInBounds_toArray, List.set_cons_zero, List.set_cons_succ]
            refine draw_oneS 12 rfl (by kernel_rfl) (by rfl) (fun K hK => ?_)
            go_simp
            refine hK.out _ _ (hSS.trans (World.grownBy_alloc _ _ none)) ?_
            clear hK K
            try simp only [Act.put, List.setIfInBounds_toArray, List.set_cons_zero, List.set_cons_succ]
            have hml := mlit u4 [(oppK x0, x1, x2)]
            have hal := World.grownBy_alloc u4 (.cells (matE.flat [(oppK x0, x1, x2)]).toArray 35) none
            have hSS2 := hSS.trans hal
            clear hSS
            have hSS := hSS2
            clear hSS2
            refine draw_oneS 15 rfl (by kernel_rfl) (by rfl) (fun K hK => ?_)
            go_simp
            refine (HSay.out _ [(oppK x0, x1, x2)] 1 1 gl cl (!R1) _ (HMX.out.grown (HU3.out.trans hSS)) hml rfl (by omega) HV2.out (hol.kept hal (by simp)).rd HR2.out).mono ?_
            rintro e u5 ⟨rfl, hg5⟩
            have hSS2 := hSS.trans hg5
            clear hSS
            have hSS := hSS2
            clear hSS2
            refine hK.out _ _ hSS ?_
            clear hK K
            try simp only [Act.put, List.setIfInBounds_toArray, List.set_cons_zero, List.set_cons_succ]
            refine draw_takeS 17 (v := ?_) rfl (by kernel_rfl) (by kernel_rfl) (by kernel_rfl) (fun _ _ _ h => h) (by rfl) hSS ?_ ?_
            rotate_left
            · intro w hS; go_simp; try with_reducible rfl
            try simp only [Act.put, List.setIfInBounds_toArray, List.set_cons_zero, List.set_cons_succ]
            refine wpAnyH_done (by kernel_rfl) ?_ _
            have HU5 : Hid (W.grownBy u5 none) := HU3.out.trans hSS
            clear hSS
            go_wp2
            go_roundw
            case rel => exact ⟨k + 1, _, by omega, rfl, by go_num, HU5.out, HA2.out⟩
            case measure => simp [intOf]; omega
      )
    · obtain rfl : k = L := by omega
      have hT : A = T := by rw [← hA, ← HT.out, List.take_of_length_le (by have := HL0.out; omega)]
      subst hT
      clear hA hlt
      go_wp2_with fail
      refine (HLow.out _).mono ?_
      rintro e wl ⟨r, rfl, hr0, hr1, rfl⟩
      obtain ⟨m, hm, hmL⟩ : ∃ m : Nat, r % ((k : Int) + 1) = m ∧ m ≤ k := by
        have h1 := Int.emod_nonneg r (show (k : Int) + 1 ≠ 0 by omega)
        have h2 := Int.emod_lt_of_pos r (show (0 : Int) < (k : Int) + 1 by omega)
        exact ⟨(r % ((k : Int) + 1)).toNat, by omega, by omega⟩
      obtain ⟨bt, ct, hntake, hst, Hrt⟩ := mats_to a0 k cap0 m hmL cc0 n0
      obtain ⟨bd, cd, hndrop, hsd, Hrd⟩ := mats_from a0 k cap0 m hmL cc0 n0
      have Htake : Hid (∀ w, W.grownBy w none → SRd matE w bt (z0.take m)) := fun w hg => Hrt w z0 (HR0.out w hg) HL0.out
      have Hdrop : Hid (∀ w, W.grownBy w none → SRd matE w bd (z0.drop m)) := fun w hg => Hrd w z0 (HR0.out w hg) HL0.out
      obtain ⟨Stake, eSt⟩ : ∃ S, saysR (z0.take m) z1 = S := ⟨_, rfl⟩
      obtain ⟨Sdrop, eSd⟩ : ∃ S, saysR (z0.drop m) z1 = S := ⟨_, rfl⟩
      have HStake : Hid (saysR (z0.take m) z1 = Stake) := eSt
      have HSdrop : Hid (saysR (z0.drop m) z1 = Sdrop) := eSd
      have HVtake : Hid (∀ q ∈ z0.take m, q.2.2.size ≤ 2147483648) := fun q hq => HV0.out q (List.mem_of_mem_take hq)
      have HVdrop : Hid (∀ q ∈ z0.drop m, q.2.2.size ≤ 2147483648) := fun q hq => HV0.out q (List.mem_of_mem_drop hq)
      have eT : A = (Stake && Sdrop) := by rw [← eSt, ← eSd, says_cut, HT.out]
      clear eSt eSd Hrt Hrd
      go_wp2
      rw [hm]
      clear hm hr0 hr1
      refine wp_region_held_drew (S := fun w' => wr.grownBy w' none) (by kernel_rfl) (gb_drew (World.grownBy.refl wr none)) (fun hSS => ?_)
      refine draw_takeS 0 (v := ?_) rfl (by kernel_rfl) (by kernel_rfl) (by kernel_rfl) (fun _ _ _ h => h) (by rfl) hSS ?_ ?_
      rotate_left
      · intro w hS; go_simp; try with_reducible rfl
      try simp only [Act.put, List.setIfInBounds_toArray, List.set_cons_zero, List.set_cons_succ]
      refine draw_takeS 1 (v := ?_) rfl (by kernel_rfl) (by kernel_rfl) (by kernel_rfl) (fun _ _ _ h => h) (by rfl) hSS ?_ ?_
      rotate_left
      · intro w hS; go_simp; try with_reducible rfl
      try simp only [Act.put, List.setIfInBounds_toArray, List.set_cons_zero, List.set_cons_succ]
      refine draw_takeS 2 (v := ?_) rfl (by kernel_rfl) (by kernel_rfl) (by kernel_rfl) (fun _ _ _ h => h) (by rfl) hSS ?_ ?_
      rotate_left
      · intro w hS; go_simp; try with_reducible rfl
      try simp only [Act.put, List.setIfInBounds_toArray, List.set_cons_zero, List.set_cons_succ]
      refine draw_takeS 4 (v := ?_) rfl (by kernel_rfl) (by kernel_rfl) (by kernel_rfl) (fun _ _ _ h => h) (by rfl) hSS ?_ ?_
      rotate_left
      · intro w hS; go_simp; try with_reducible rfl
      try simp only [Act.put, List.setIfInBounds_toArray, List.set_cons_zero, List.set_cons_succ]
      refine draw_takeS 7 (v := ?_) rfl (by kernel_rfl) (by kernel_rfl) (by kernel_rfl) (fun _ _ _ h => h) (by rfl) hSS ?_ ?_
      rotate_left
      · intro w hS; go_simp; try with_reducible rfl
      try simp only [Act.put, List.setIfInBounds_toArray, List.set_cons_zero, List.set_cons_succ]
      refine draw_takeS 8 (v := ?_) rfl (by kernel_rfl) (by kernel_rfl) (by kernel_rfl) (fun _ _ _ h => h) (by rfl) hSS ?_ ?_
      rotate_left
      · intro w hS; go_simp; try with_reducible rfl
      try simp only [Act.put, List.setIfInBounds_toArray, List.set_cons_zero, List.set_cons_succ]
      refine draw_takeS 9 (v := ?_) rfl (by kernel_rfl) (by kernel_rfl) (by kernel_rfl) (fun _ _ _ h => h) (by rfl) hSS ?_ ?_
      rotate_left
      · intro w hS; go_simp; try with_reducible rfl
      try simp only [Act.put, List.setIfInBounds_toArray, List.set_cons_zero, List.set_cons_succ]
      refine draw_takeS 11 (v := ?_) rfl (by kernel_rfl) (by kernel_rfl) (by kernel_rfl) (fun _ _ _ h => h) (by rfl) hSS ?_ ?_
      rotate_left
      · intro w hS; go_simp; try with_reducible rfl
      try simp only [Act.put, List.setIfInBounds_toArray, List.set_cons_zero, List.set_cons_succ]
      refine draw_oneS 3 rfl (by kernel_rfl) (by rfl) (fun K hK => ?_)
      go_simp
      refine (HCm.out bt (z0.take m) m ct _ (Htake.out _ (HG.out.trans hSS)) (by have := HL0.out; simp; omega) hntake (by omega)).mono ?_
      rintro e p3 ⟨gm, cm, rfl, hom, hgm⟩
      have hSS2 := hSS.trans hgm
      clear hSS
      have hSS := hSS2
      clear hSS2
      refine hK.out _ _ hSS ?_
      clear hK K
      try simp only [Act.put, List.setIfInBounds_toArray, List.set_cons_zero, List.set_cons_succ]
      refine draw_oneS 5 rfl (by kernel_rfl) (by rfl) (fun K hK => ?_)
      go_simp
      refine (HCp.out _ (HG.out.trans hSS)).mono ?_
      rintro e q3 ⟨gl, cl, rfl, hol, hgl⟩
      have hom2 := hom.kept hgl (by simp)
      have hSS2 := hSS.trans hgl
      clear hSS
      have hSS := hSS2
      clear hSS2
      refine hK.out _ _ hSS ?_
      clear hK K
      try simp only [Act.put, List.setIfInBounds_toArray, List.set_cons_zero, List.set_cons_succ]
      refine draw_oneS 6 rfl (by kernel_rfl) (by rfl) (fun K hK => ?_)
      go_simp
      refine (HSay.out _ (z0.take m) m cm gl cl Stake _ (HMX.out.grown (HG.out.trans hSS)) hom2.rd (by have := HL0.out; simp; omega) (by omega) HVtake.out hol.rd HStake.out).mono ?_
      rintro e r3 ⟨rfl, hgr⟩
      have hSS2 := hSS.trans hgr
      clear hSS
      have hSS := hSS2
      clear hSS2
      clear hom hol hom2 hgm hgl
      refine hK.out _ _ hSS ?_
      clear hK K
      try simp only [Act.put, List.setIfInBounds_toArray, List.set_cons_zero, List.set_cons_succ]
      refine draw_oneS 10 rfl (by kernel_rfl) (by rfl) (fun K hK => ?_)
      go_simp
      refine (HCm.out bd (z0.drop m) (k - m) cd _ (Hdrop.out _ (HG.out.trans hSS)) (by have := HL0.out; simp; omega) hndrop (by omega)).mono ?_
      rintro e p10 ⟨gm, cm, rfl, hom, hgm⟩
      have hSS2 := hSS.trans hgm
      clear hSS
      have hSS := hSS2
      clear hSS2
      refine hK.out _ _ hSS ?_
      clear hK K
      try simp only [Act.put, List.setIfInBounds_toArray, List.set_cons_zero, List.set_cons_succ]
      refine draw_oneS 12 rfl (by kernel_rfl) (by rfl) (fun K hK => ?_)
      go_simp
      refine (HCp.out _ (HG.out.trans hSS)).mono ?_
      rintro e q10 ⟨gl, cl, rfl, hol, hgl⟩
      have hom2 := hom.kept hgl (by simp)
      have hSS2 := hSS.trans hgl
      clear hSS
      have hSS := hSS2
      clear hSS2
      refine hK.out _ _ hSS ?_
      clear hK K
      try simp only [Act.put, List.setIfInBounds_toArray, List.set_cons_zero, List.set_cons_succ]
      refine draw_oneS 13 rfl (by kernel_rfl) (by rfl) (fun K hK => ?_)
      go_simp
      refine (HSay.out _ (z0.drop m) (k - m) cm gl cl Sdrop _ (HMX.out.grown (HG.out.trans hSS)) hom2.rd (by have := HL0.out; simp; omega) (by omega) HVdrop.out hol.rd HSdrop.out).mono ?_
      rintro e r10 ⟨rfl, hgr⟩
      have hSS2 := hSS.trans hgr
      clear hSS
      have hSS := hSS2
      clear hSS2
      clear hom hol hom2 hgm hgl
      refine hK.out _ _ hSS ?_
      clear hK K
      try simp only [Act.put, List.setIfInBounds_toArray, List.set_cons_zero, List.set_cons_succ]
      refine draw_takeS 14 (v := ?_) rfl (by kernel_rfl) (by kernel_rfl) (by kernel_rfl) (fun _ _ _ h => h) (by rfl) hSS ?_ ?_
      rotate_left
      · intro w hS; go_simp; try with_reducible rfl
      try simp only [Act.put, List.setIfInBounds_toArray, List.set_cons_zero, List.set_cons_succ]
      refine draw_takeS 15 (v := ?_) rfl (by kernel_rfl) (by kernel_rfl) (by kernel_rfl) (fun _ _ _ h => h) (by rfl) hSS ?_ ?_
      rotate_left
      · intro w hS; go_simp; try with_reducible rfl
      try simp only [Act.put, List.setIfInBounds_toArray, List.set_cons_zero, List.set_cons_succ]
      refine wpAnyH_done (by kernel_rfl) ?_ _
      have HGB : Hid (W.grownBy r10 none) := HG.out.trans hSS
      clear hSS hst hsd Htake Hdrop hntake hndrop HStake HSdrop HVtake HVdrop HG
      have qA : (A == A) = true := by simp
      have qB : ((Stake && Sdrop) == A) = true := by rw [eT]; simp
      go_wp2_with fail
      refine (HCm.out a0 z0 k cap0 _ (HR0.out _ HGB.out) HL0.out n0 (by omega)).mono ?_
      rintro e v1 ⟨g1, c1, rfl, ho1, hg1⟩
      have HO1 : Hid (MOwn v1 _ g1 k c1 z0) := ho1
      have HV1 : Hid (W.grownBy v1 none) := HGB.out.trans hg1
      clear ho1 hg1
      go_wp2_with fail
      refine (HCp.out _ HV1.out).mono ?_
      rintro e v2 ⟨g2, c2, rfl, ho2, hg2⟩
      have HO2 : Hid (LOwn v2 _ g2 M c2 z1) := ho2
      have HO12 : Hid (MOwn v2 _ g1 k c1 z0) := HO1.out.kept hg2 (by simp)
      have HV2 : Hid (W.grownBy v2 none) := HV1.out.trans hg2
      clear ho2 hg2 HO1
      go_wp2_with fail
      refine (HSay.out _ z0 k c1 g2 c2 A v2 (HMX.out.grown HV2.out) HO12.out.rd HL0.out (by omega) HV0.out HO2.out.rd HT.out).mono ?_
      rintro e v3 ⟨rfl, hg3⟩
      have HV3 : Hid (W.grownBy v3 none) := HV2.out.trans hg3
      clear hg3 HO2 HO12
      cases Stake
      all_goals (
        simp only [Bool.true_and, Bool.false_and] at eT qB
        subst eT
        go_wp2_with fail
        refine (HCp.out _ HV3.out).mono ?_
        rintro e v4 ⟨g4, c4, rfl, ho4, hg4⟩
        have HO4 : Hid (LOwn v4 _ g4 M c4 z1) := ho4
        have HV4 : Hid (W.grownBy v4 none) := HV3.out.trans hg4
        clear ho4 hg4
        go_wp2_with fail
        refine (HSay.out none [] 0 0 g4 c4 true v4 (HMX.out.grown HV4.out) (SRd.nil _ _) rfl (by omega) (by simp) HO4.out.rd rfl).mono ?_
        rintro e v5 ⟨rfl, hg5⟩
        have HV5 : Hid (W.grownBy v5 none) := HV4.out.trans hg5
        clear hg5 HO4
        go_wp2_with fail
        refine (HA.out _ (HMX.out.grown HV5.out)).mono ?_
        rintro e v6 ⟨rfl, hg6⟩
        have HV6 : Hid (W.grownBy v6 none) := HV5.out.trans hg6
        clear hg6
        go_wp2
        go_ret
        exact ⟨rfl, gb_below HV6.out⟩)
end Go.Proofs.YtbncglhgllialaaDoor
