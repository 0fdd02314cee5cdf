/- A set with a label more, and the parts of a set, of sets that may be. -/
import Derived.Test.YtailaehpgmpaaaaLwith
namespace Go.Proofs.Ytailaehpgmpaaaa
open Go.ChangeShapes Go.WideShapes Go.ChangeAt Go.RowKit
set_option linter.unusedVariables false

set_option maxHeartbeats 1000000 in
theorem labelWiths_not (a0 : Option Addr) (z0 : List Lab) (cap0 : Nat) (name value : ByteArray) (a1 : Option Addr) (M cap1 : Nat) (W : World)
    (r0 : SRd labE W a0 z0) (n0 : a0 = none → cap0 = 0) (l0 : z0.length ≤ 4398046510976) (hC : ¬ checkR z0 = 0) :
    Calls Try.prog 8 #[.slice a0 z0.length cap0, .string name, .string value, .slice a1 M cap1] W fun e w' => e = .returned (.bool true) ∧ Below W.heap.size W w' := by
  obtain ⟨C, eC⟩ : ∃ C, checkR z0 = C := ⟨_, rfl⟩
  rw [eC] at hC
  have hC' : (C != 0) = true := by simpa using hC
  have HCp : Hid (Calls Try.prog 38 #[.slice a0 z0.length cap0] W fun e w' => ∃ g c, e = .returned (.slice (some ⟨g, 0, none⟩) z0.length c) ∧ LOwn w' W.heap.size g z0.length c z0 ∧ W.grownBy w' none) := lcopy a0 z0 _ cap0 W r0 rfl n0 (by omega)
  have HCk : Hid (∀ (g c : Nat) (w : World), SRd labE w (some ⟨g, 0, none⟩) z0 → Calls Try.prog 10 #[.slice (some ⟨g, 0, none⟩) z0.length c] w fun e w' => e = .returned (.int .i64 C) ∧ w.grownBy w' none) := fun g c w h => f_check _ z0 _ c C w h rfl (by omega) eC
  obtain ⟨L, eL⟩ : ∃ L, L = z0.length := ⟨_, rfl⟩
  rw [← eL] at HCp HCk l0 ⊢
  clear r0 n0 eL eC hC
  go_enter Try.func8, Try.ntmps8
  go_wp2_with fail
  refine HCp.out.mono ?_
  rintro e w1 ⟨g1, c1, rfl, ho1, hg1⟩
  have HO1 : Hid (LOwn w1 W.heap.size g1 L c1 z0) := ho1
  have HG1 : Hid (W.grownBy w1 none) := hg1
  clear ho1 hg1
  go_wp2_with fail
  refine (HCk.out g1 c1 w1 HO1.out.rd).mono ?_
  rintro e w2 ⟨rfl, hg2⟩
  have HG2 : Hid (W.grownBy w2 none) := HG1.out.trans hg2
  clear hg2
  go_wp2_with fail
  refine (awake_lab w2).mono ?_
  rintro e w3 ⟨rfl, hg3⟩
  have HG3 : Hid (W.grownBy w3 none) := HG2.out.trans hg3
  clear hg3
  go_wp2
  go_ret
  exact ⟨rfl, gb_below HG3.out⟩

set_option maxHeartbeats 8000000 in
theorem labelWiths_none (a0 : Option Addr) (z0 : List Lab) (cap0 : Nat) (name value : ByteArray) (a1 : Option Addr) (z1 : List ByteArray) (cap1 : Nat) (W : World)
    (r0 : SRd labE W a0 z0) (n0 : a0 = none → cap0 = 0) (r1 : SRd strE W a1 z1) (n1 : a1 = none → cap1 = 0) (l1 : z1.length ≤ 8796093021952) (hC : checkR z0 = 0) (hone : ¬ checkR [(name, value)] = 0) :
    Calls Try.prog 8 #[.slice a0 z0.length cap0, .string name, .string value, .slice a1 z1.length cap1] W fun e w' => e = .returned (.bool true) ∧ Below W.heap.size W w' := by
  have l0 : z0.length ≤ 16 := ((check_iff z0).1 hC).1
  obtain ⟨X, eX⟩ : ∃ X, withR z0 name value = X := ⟨_, rfl⟩
  obtain ⟨K, eK⟩ : ∃ K, someR z0 z1 true = K := ⟨_, rfl⟩
  obtain ⟨O, eO⟩ : ∃ O, someR z0 z1 false = O := ⟨_, rfl⟩
  obtain ⟨Rst, eR⟩ : ∃ O, someR z0 [name] false = O := ⟨_, rfl⟩
  obtain ⟨C1, eC1⟩ : ∃ C, checkR [(name, value)] = C := ⟨_, rfl⟩
  have HXl : Hid (X.length ≤ 17) := by show _ ≤ _; have := withR_len z0 name value; rw [eX] at this; omega
  have HKl : Hid (K.length ≤ 16) := by show _ ≤ _; have := someR_len z0 z1 true; rw [eK] at this; omega
  have HOl : Hid (O.length ≤ 16) := by show _ ≤ _; have := someR_len z0 z1 false; rw [eO] at this; omega
  have HRl : Hid (Rst.length ≤ 16) := by show _ ≤ _; have := someR_len z0 [name] false; rw [eR] at this; omega
  have HSum : Hid (K.length + O.length = z0.length) := by show _ = _; rw [← eK, ← eO]; exact parts_len z0 z1
  have HCp : Hid (∀ w, W.grownBy w none → Calls Try.prog 38 #[.slice a0 z0.length cap0] w fun e w' => ∃ g c, e = .returned (.slice (some ⟨g, 0, none⟩) z0.length c) ∧ LOwn w' w.heap.size g z0.length c z0 ∧ w.grownBy w' none) := fun w hg => lcopy a0 z0 _ cap0 w (r0.grown hg (by simp)) rfl n0 (by omega)
  have HCk : Hid (∀ (g c : Nat) (w : World), SRd labE w (some ⟨g, 0, none⟩) z0 → Calls Try.prog 10 #[.slice (some ⟨g, 0, none⟩) z0.length c] w fun e w' => e = .returned (.int .i64 0) ∧ w.grownBy w' none) := fun g c w h => f_check _ z0 _ c 0 w h rfl (by omega) hC
  have HOne : Hid (∀ w : World, Calls Try.prog 10 #[.slice (some ⟨w.heap.size, 0, none⟩) 1 1] (w.alloc (.cells #[.string name, .string value] 52)) fun e w' => e = .returned (.int .i64 C1) ∧ w.grownBy w' none) := fun w => (f_check _ [(name, value)] 1 1 C1 _ (llit w [(name, value)]) rfl (by omega) eC1).mono (by rintro e w' ⟨rfl, hg⟩; exact ⟨rfl, (World.grownBy_alloc w _ none).trans hg⟩)
  have HWith : Hid (∀ (g c : Nat) (w : World), SRd labE w (some ⟨g, 0, none⟩) z0 → Calls Try.prog 30 #[.slice (some ⟨g, 0, none⟩) z0.length c, .string name, .string value] w fun e w' => ∃ v n, e = .returned v ∧ SOwn labE 52 w' w.heap.size v n X ∧ w.grownBy w' none) := fun g c w h => f_with _ z0 _ c name value X w h rfl (by omega) eX
  have HNone : Hid (∀ (g c : Nat) (w : World), SRd labE w (some ⟨g, 0, none⟩) z0 → Calls Try.prog 30 #[.slice (some ⟨g, 0, none⟩) z0.length c, .string name, .string ⟨#[]⟩] w fun e w' => ∃ v n, e = .returned v ∧ SOwn labE 52 w' w.heap.size v n Rst ∧ w.grownBy w' none) := fun g c w h => f_with _ z0 _ c name ⟨#[]⟩ Rst w h rfl (by omega) (by rw [with_none, eR])
  have HKeep : Hid (∀ (g c : Nat) (w : World), W.grownBy w none → SRd labE w (some ⟨g, 0, none⟩) z0 → Calls Try.prog 31 #[.slice (some ⟨g, 0, none⟩) z0.length c, .slice a1 z1.length cap1] w fun e w' => ∃ v n, e = .returned v ∧ SOwn labE 52 w' w.heap.size v n K ∧ w.grownBy w' none) := fun g c w hg hh => f_keep _ _ z0 z1 _ _ c cap1 K w hh (r1.grown hg (by simp)) rfl rfl (by omega) (by omega) eK
  have HWout : Hid (∀ (g c : Nat) (w : World), W.grownBy w none → SRd labE w (some ⟨g, 0, none⟩) z0 → Calls Try.prog 32 #[.slice (some ⟨g, 0, none⟩) z0.length c, .slice a1 z1.length cap1] w fun e w' => ∃ v n, e = .returned v ∧ SOwn labE 52 w' w.heap.size v n O ∧ w.grownBy w' none) := fun g c w hg hh => f_without _ _ z0 z1 _ _ c cap1 O w hh (r1.grown hg (by simp)) rfl rfl (by omega) (by omega) eO
  have HRest : Hid (∀ (g c : Nat) (w : World), SRd labE w (some ⟨g, 0, none⟩) z0 → Calls Try.prog 32 #[.slice (some ⟨g, 0, none⟩) z0.length c, .slice (some ⟨w.heap.size, 0, none⟩) 1 1] (w.alloc (.cells #[.string name] 9)) fun e w' => ∃ v n, e = .returned v ∧ SOwn labE 52 w' w.heap.size v n Rst ∧ w.grownBy w' none) := fun g c w hh => (f_without _ _ z0 [name] _ 1 c 1 Rst _ (hh.grown (World.grownBy_alloc w (.cells #[.string name] 9) none) (by simp)) (tlit w [name]) rfl rfl (by omega) (by omega) eR).mono (by
    rintro e w' ⟨v, n, rfl, ho, hg⟩
    exact ⟨v, n, rfl, ho.base (World.grownBy_alloc w _ none).size, (World.grownBy_alloc w _ none).trans hg⟩)
  have HAt : Hid (∀ k, k < z0.length → ∃ b off, a0 = some ⟨b, off, none⟩ ∧ ∃ s1 s2, W.cell? ⟨b, off + k * 2, none⟩ = some (.string s1) ∧ W.cell? ⟨b, off + k * 2 + 1, none⟩ = some (.string s2) ∧ (((getR K s1).toList == s2.toList) == ((getR O s1).toList == s2.toList)) = false) := by
    intro k hk
    obtain ⟨b, off, rfl, hc⟩ := r0.at (by omega)
    obtain ⟨⟨s1, s2⟩, ex⟩ : ∃ x, z0[k]? = some x := ⟨_, List.getElem?_eq_getElem (by omega)⟩
    have h := parts_get hC z1 ex
    rw [eK, eO] at h
    exact ⟨b, off, rfl, s1, s2, hc k _ 0 _ ex rfl, by rw [Nat.add_assoc]; exact hc k _ 1 _ ex rfl, h⟩
  have h1 : (C1 == 0) = false := by rw [← eC1]; simpa using hone
  clear hone
  obtain ⟨L, eL⟩ : ∃ L, L = z0.length := ⟨_, rfl⟩
  obtain ⟨M, eM⟩ : ∃ M, M = z1.length := ⟨_, rfl⟩
  rw [← eL] at HCp HCk HWith HNone HKeep HWout HRest HAt HSum l0 ⊢
  rw [← eM] at HKeep HWout l1 ⊢
  clear r0 r1 n0 n1 eL eM eX eK eO eR eC1 hC
  go_enter Try.func8, Try.ntmps8
  go_wp2_with fail
  refine (HCp.out W (World.grownBy.refl _ _)).mono ?_
  rintro e w1 ⟨g1, c1, rfl, ho1, hg1⟩
  have HO1 : Hid (LOwn w1 W.heap.size g1 L c1 z0) := ho1
  have HG1 : Hid (W.grownBy w1 none) := hg1
  clear ho1 hg1
  go_wp2_with fail
  refine (HCk.out g1 c1 w1 HO1.out.rd).mono ?_
  rintro e w2 ⟨rfl, hg2⟩
  have HG2 : Hid (W.grownBy w2 none) := HG1.out.trans hg2
  clear hg2 HO1 HG1 HCk
  go_wp2_with fail
  refine (HOne.out w2).mono ?_
  rintro e w3 ⟨rfl, hg3⟩
  have HG3 : Hid (W.grownBy w3 none) := HG2.out.trans hg3
  clear hg3 HG2 HOne
  go_wp2_with fail
  refine (HCp.out w3 HG3.out).mono ?_
  rintro e w4 ⟨g4, c4, rfl, ho4, hg4⟩
  have HO4 : Hid (LOwn w4 w3.heap.size g4 L c4 z0) := ho4
  have HG4 : Hid (W.grownBy w4 none) := HG3.out.trans hg4
  clear ho4 hg4 HG3
  go_wp2_with fail
  refine (HWith.out g4 c4 w4 HO4.out.rd).mono ?_
  rintro e w5 ⟨v5, n5, rfl, ho5, hg5⟩
  obtain ⟨b5, c5, rfl, -, -, -, -⟩ := sown_form ho5
  have HO5 : Hid (SOwn labE 52 w5 w4.heap.size (.slice b5 n5 c5) n5 X) := ho5
  have hn5 : X.length = n5 := SOwn.len ho5
  have hn5b : n5 ≤ 17 := by have := HXl.out; omega
  have HG5 : Hid (W.grownBy w5 none) := HG4.out.trans hg5
  clear ho5 hg5 HG4 HO4 HWith
  clear hn5 HXl HO5
  obtain ⟨wT, eT⟩ : ∃ x, x = w5 := ⟨_, rfl⟩
  rw [← eT] at HG5 ⊢
  have HGT : Hid (W.grownBy wT none) := HG5.out
  clear eT HG5
  go_wp2_with fail
  refine (HCp.out wT HGT.out).mono ?_
  rintro e u1 ⟨g1, c1, rfl, ho1, hg1⟩
  have HO1 : Hid (LOwn u1 wT.heap.size g1 L c1 z0) := ho1
  have HU1 : Hid (W.grownBy u1 none) := HGT.out.trans hg1
  clear ho1 hg1 HGT
  go_wp2_with fail
  refine (HKeep.out g1 c1 u1 HU1.out HO1.out.rd).mono ?_
  rintro e u2 ⟨v2, nk, rfl, ho2, hg2⟩
  obtain ⟨bk, ck, rfl, -, -, -, -⟩ := sown_form ho2
  have HOK : Hid (SOwn labE 52 u2 u1.heap.size (.slice bk nk ck) nk K) := ho2
  have HU2 : Hid (W.grownBy u2 none) := HU1.out.trans hg2
  clear ho2 hg2 HU1 HO1
  go_wp2_with fail
  refine (HCp.out u2 HU2.out).mono ?_
  rintro e u3 ⟨g3, c3, rfl, ho3, hg3⟩
  have HO3 : Hid (LOwn u3 u2.heap.size g3 L c3 z0) := ho3
  have HU3 : Hid (W.grownBy u3 none) := HU2.out.trans hg3
  have HU23 : Hid (u2.grownBy u3 none) := hg3
  clear ho3 hg3 HU2
  go_wp2_with fail
  refine (HWout.out g3 c3 u3 HU3.out HO3.out.rd).mono ?_
  rintro e u4 ⟨v4, no, rfl, ho4, hg4⟩
  obtain ⟨bo, co, rfl, -, -, -, -⟩ := sown_form ho4
  have HOO : Hid (SOwn labE 52 u4 u3.heap.size (.slice bo no co) no O) := ho4
  have HU4 : Hid (W.grownBy u4 none) := HU3.out.trans hg4
  have HOK4 : Hid (SOwn labE 52 u4 u1.heap.size (.slice bk nk ck) nk K) := SOwn.kept HOK.out (HU23.out.trans hg4) (Classical.em _)
  have hnk : nk ≤ 16 := by have h := SOwn.len HOK.out; have h2 := HKl.out; omega
  have hno : no ≤ 16 := by have h := SOwn.len ho4; have h2 := HOl.out; omega
  have HGetK : Hid (∀ (s R : ByteArray) (w : World), getR K s = R → u4.grownBy w none → Calls Try.prog 29 #[.slice bk nk ck, .string s] w fun e w' => e = .returned (.string R) ∧ w.grownBy w' none) := fun s R w hR hg => f_get bk K nk ck s R w (SRd.grown (SOwn.rd HOK4.out) hg (by simp)) (SOwn.len HOK4.out) (by omega) hR
  have HGetO : Hid (∀ (s R : ByteArray) (w : World), getR O s = R → u4.grownBy w none → Calls Try.prog 29 #[.slice bo no co, .string s] w fun e w' => e = .returned (.string R) ∧ w.grownBy w' none) := fun s R w hR hg => f_get bo O no co s R w (SRd.grown (SOwn.rd HOO.out) hg (by simp)) (SOwn.len HOO.out) (by omega) hR
  have hsum : nk + no = L := by have h1 := SOwn.len HOK.out; have h2 := SOwn.len ho4; have h3 := HSum.out; omega
  clear ho4 hg4 HU3 HOK HO3 HU23 HOK4 HOO
  go_wp2
  go_loopw [13] (fun i wr => ∃ k : Nat, k ≤ L ∧ i = .int .i64 k ∧ u4.grownBy wr none) (fun i _ => L - (intOf i).toNat)
  case atStart => exact ⟨0, Nat.zero_le _, rfl, World.grownBy.refl _ _⟩
  case round =>
    obtain ⟨k, hk, rfl, hg⟩ := hrel
    have HG : Hid (u4.grownBy wr none) := hg
    clear hg
    by_cases hlt : k < L
    · obtain ⟨b, off, rfl, s1, s2, hc0, hc1, hpg⟩ := HAt.out k hlt
      have a0 : wr.cell? ⟨b, off + k * 2, none⟩ = some (.string s1) := (HU4.out.trans HG.out).cell hc0 (by simp)
      have a1 : wr.cell? ⟨b, off + k * 2 + 1, none⟩ = some (.string s2) := (HU4.out.trans HG.out).cell hc1 (by simp)
      obtain ⟨GK, eGK⟩ : ∃ G, getR K s1 = G := ⟨_, rfl⟩
      obtain ⟨GO, eGO⟩ : ∃ G, getR O s1 = G := ⟨_, rfl⟩
      have HGK : Hid (∀ w, wr.grownBy w none → Calls Try.prog 29 #[.slice bk nk ck, .string s1] w fun e w' => e = .returned (.string GK) ∧ w.grownBy w' none) := fun w hg => HGetK.out s1 GK w eGK (HG.out.trans hg)
      have HGO : Hid (∀ w, wr.grownBy w none → Calls Try.prog 29 #[.slice bo no co, .string s1] w fun e w' => e = .returned (.string GO) ∧ w.grownBy w' none) := fun w hg => HGetO.out s1 GO w eGO (HG.out.trans hg)
      rw [eGK, eGO] at hpg
      have hki : (k : Int) < (L : Int) := by omega
      clear hc0 hc1 eGK eGO HGetK HGetO
      cases hx : (GK.toList == s2.toList) with
      | true =>
        have hy : (GO.toList == s2.toList) = false := by cases h : (GO.toList == s2.toList) with
          | false => rfl
          | true => rw [hx, h] at hpg; simp at hpg
        clear hpg
        go_wp2
        refine wp_region_held_drew (S := fun w' => wr.grownBy w' none) (by kernel_rfl) (gb_drew (World.grownBy.refl wr none)) (fun hSS => ?_)
        refine draw_takeS 0 (v := ?_) rfl (by kernel_rfl) (by kernel_rfl) (by kernel_rfl) (fun _ _ _ h => h) (by rfl) hSS ?_ ?_
        rotate_left
        · intro w hS; have c0 := hS.cell a0 (by simp); have c1 := hS.cell a1 (by simp); go_simp; try with_reducible rfl
        try simp only [Act.put, List.setIfInBounds_toArray, List.set_cons_zero, List.set_cons_succ]
        refine draw_takeS 1 (v := ?_) rfl (by kernel_rfl) (by kernel_rfl) (by kernel_rfl) (fun _ _ _ h => h) (by rfl) hSS ?_ ?_
        rotate_left
        · intro w hS; have c0 := hS.cell a0 (by simp); have c1 := hS.cell a1 (by simp); go_simp; try with_reducible rfl
        try simp only [Act.put, List.setIfInBounds_toArray, List.set_cons_zero, List.set_cons_succ]
        refine draw_takeS 2 (v := ?_) rfl (by kernel_rfl) (by kernel_rfl) (by kernel_rfl) (fun _ _ _ h => h) (by rfl) hSS ?_ ?_
        rotate_left
        · intro w hS; have c0 := hS.cell a0 (by simp); have c1 := hS.cell a1 (by simp); go_simp; try with_reducible rfl
        try simp only [Act.put, List.setIfInBounds_toArray, List.set_cons_zero, List.set_cons_succ]
        refine draw_takeS 3 (v := ?_) rfl (by kernel_rfl) (by kernel_rfl) (by kernel_rfl) (fun _ _ _ h => h) (by rfl) hSS ?_ ?_
        rotate_left
        · intro w hS; have c0 := hS.cell a0 (by simp); have c1 := hS.cell a1 (by simp); go_simp; try with_reducible rfl
        try simp only [Act.put, List.setIfInBounds_toArray, List.set_cons_zero, List.set_cons_succ]
        refine draw_takeS 4 (v := ?_) rfl (by kernel_rfl) (by kernel_rfl) (by kernel_rfl) (fun _ _ _ h => h) (by rfl) hSS ?_ ?_
        rotate_left
        · intro w hS; have c0 := hS.cell a0 (by simp); have c1 := hS.cell a1 (by simp); go_simp; try with_reducible rfl
        try simp only [Act.put, List.setIfInBounds_toArray, List.set_cons_zero, List.set_cons_succ]
        refine draw_takeS 5 (v := ?_) rfl (by kernel_rfl) (by kernel_rfl) (by kernel_rfl) (fun _ _ _ h => h) (by rfl) hSS ?_ ?_
        rotate_left
        · intro w hS; have c0 := hS.cell a0 (by simp); have c1 := hS.cell a1 (by simp); go_simp; try with_reducible rfl
        try simp only [Act.put, List.setIfInBounds_toArray, List.set_cons_zero, List.set_cons_succ]
        refine draw_takeS 7 (v := ?_) rfl (by kernel_rfl) (by kernel_rfl) (by kernel_rfl) (fun _ _ _ h => h) (by rfl) hSS ?_ ?_
        rotate_left
        · intro w hS; have c0 := hS.cell a0 (by simp); have c1 := hS.cell a1 (by simp); go_simp; try with_reducible rfl
        try simp only [Act.put, List.setIfInBounds_toArray, List.set_cons_zero, List.set_cons_succ]
        refine draw_takeS 8 (v := ?_) rfl (by kernel_rfl) (by kernel_rfl) (by kernel_rfl) (fun _ _ _ h => h) (by rfl) hSS ?_ ?_
        rotate_left
        · intro w hS; have c0 := hS.cell a0 (by simp); have c1 := hS.cell a1 (by simp); go_simp; try with_reducible rfl
        try simp only [Act.put, List.setIfInBounds_toArray, List.set_cons_zero, List.set_cons_succ]
        refine draw_takeS 9 (v := ?_) rfl (by kernel_rfl) (by kernel_rfl) (by kernel_rfl) (fun _ _ _ h => h) (by rfl) hSS ?_ ?_
        rotate_left
        · intro w hS; have c0 := hS.cell a0 (by simp); have c1 := hS.cell a1 (by simp); go_simp; try with_reducible rfl
        try simp only [Act.put, List.setIfInBounds_toArray, List.set_cons_zero, List.set_cons_succ]
        refine draw_takeS 10 (v := ?_) rfl (by kernel_rfl) (by kernel_rfl) (by kernel_rfl) (fun _ _ _ h => h) (by rfl) hSS ?_ ?_
        rotate_left
        · intro w hS; have c0 := hS.cell a0 (by simp); have c1 := hS.cell a1 (by simp); go_simp; try with_reducible rfl
        try simp only [Act.put, List.setIfInBounds_toArray, List.set_cons_zero, List.set_cons_succ]
        refine draw_takeS 11 (v := ?_) rfl (by kernel_rfl) (by kernel_rfl) (by kernel_rfl) (fun _ _ _ h => h) (by rfl) hSS ?_ ?_
        rotate_left
        · intro w hS; have c0 := hS.cell a0 (by simp); have c1 := hS.cell a1 (by simp); go_simp; try with_reducible rfl
        try simp only [Act.put, List.setIfInBounds_toArray, List.set_cons_zero, List.set_cons_succ]
        refine draw_takeS 13 (v := ?_) rfl (by kernel_rfl) (by kernel_rfl) (by kernel_rfl) (fun _ _ _ h => h) (by rfl) hSS ?_ ?_
        rotate_left
        · intro w hS; have c0 := hS.cell a0 (by simp); have c1 := hS.cell a1 (by simp); go_simp; try with_reducible rfl
        try simp only [Act.put, List.setIfInBounds_toArray, List.set_cons_zero, List.set_cons_succ]
        refine draw_takeS 14 (v := ?_) rfl (by kernel_rfl) (by kernel_rfl) (by kernel_rfl) (fun _ _ _ h => h) (by rfl) hSS ?_ ?_
        rotate_left
        · intro w hS; have c0 := hS.cell a0 (by simp); have c1 := hS.cell a1 (by simp); go_simp; try with_reducible rfl
        try simp only [Act.put, List.setIfInBounds_toArray, List.set_cons_zero, List.set_cons_succ]
        refine draw_takeS 15 (v := ?_) rfl (by kernel_rfl) (by kernel_rfl) (by kernel_rfl) (fun _ _ _ h => h) (by rfl) hSS ?_ ?_
        rotate_left
        · intro w hS; have c0 := hS.cell a0 (by simp); have c1 := hS.cell a1 (by simp); go_simp; try with_reducible rfl
        try simp only [Act.put, List.setIfInBounds_toArray, List.set_cons_zero, List.set_cons_succ]
        refine draw_takeS 16 (v := ?_) rfl (by kernel_rfl) (by kernel_rfl) (by kernel_rfl) (fun _ _ _ h => h) (by rfl) hSS ?_ ?_
        rotate_left
        · intro w hS; have c0 := hS.cell a0 (by simp); have c1 := hS.cell a1 (by simp); go_simp; try with_reducible rfl
        try simp only [Act.put, List.setIfInBounds_toArray, List.set_cons_zero, List.set_cons_succ]
        refine draw_takeS 17 (v := ?_) rfl (by kernel_rfl) (by kernel_rfl) (by kernel_rfl) (fun _ _ _ h => h) (by rfl) hSS ?_ ?_
        rotate_left
        · intro w hS; have c0 := hS.cell a0 (by simp); have c1 := hS.cell a1 (by simp); go_simp; try with_reducible rfl
        try simp only [Act.put, List.setIfInBounds_toArray, List.set_cons_zero, List.set_cons_succ]
        refine draw_takeS 18 (v := ?_) rfl (by kernel_rfl) (by kernel_rfl) (by kernel_rfl) (fun _ _ _ h => h) (by rfl) hSS ?_ ?_
        rotate_left
        · intro w hS; have c0 := hS.cell a0 (by simp); have c1 := hS.cell a1 (by simp); go_simp; try with_reducible rfl
        try simp only [Act.put, List.setIfInBounds_toArray, List.set_cons_zero, List.set_cons_succ]
        refine draw_takeS 20 (v := ?_) rfl (by kernel_rfl) (by kernel_rfl) (by kernel_rfl) (fun _ _ _ h => h) (by rfl) hSS ?_ ?_
        rotate_left
        · intro w hS; have c0 := hS.cell a0 (by simp); have c1 := hS.cell a1 (by simp); go_simp; try with_reducible rfl
        try simp only [Act.put, List.setIfInBounds_toArray, List.set_cons_zero, List.set_cons_succ]
        refine draw_takeS 21 (v := ?_) rfl (by kernel_rfl) (by kernel_rfl) (by kernel_rfl) (fun _ _ _ h => h) (by rfl) hSS ?_ ?_
        rotate_left
        · intro w hS; have c0 := hS.cell a0 (by simp); have c1 := hS.cell a1 (by simp); go_simp; try with_reducible rfl
        try simp only [Act.put, List.setIfInBounds_toArray, List.set_cons_zero, List.set_cons_succ]
        refine draw_takeS 22 (v := ?_) rfl (by kernel_rfl) (by kernel_rfl) (by kernel_rfl) (fun _ _ _ h => h) (by rfl) hSS ?_ ?_
        rotate_left
        · intro w hS; have c0 := hS.cell a0 (by simp); have c1 := hS.cell a1 (by simp); go_simp; try with_reducible rfl
        try simp only [Act.put, List.setIfInBounds_toArray, List.set_cons_zero, List.set_cons_succ]
        refine draw_takeS 23 (v := ?_) rfl (by kernel_rfl) (by kernel_rfl) (by kernel_rfl) (fun _ _ _ h => h) (by rfl) hSS ?_ ?_
        rotate_left
        · intro w hS; have c0 := hS.cell a0 (by simp); have c1 := hS.cell a1 (by simp); go_simp; try with_reducible rfl
        try simp only [Act.put, List.setIfInBounds_toArray, List.set_cons_zero, List.set_cons_succ]
        refine draw_takeS 24 (v := ?_) rfl (by kernel_rfl) (by kernel_rfl) (by kernel_rfl) (fun _ _ _ h => h) (by rfl) hSS ?_ ?_
        rotate_left
        · intro w hS; have c0 := hS.cell a0 (by simp); have c1 := hS.cell a1 (by simp); go_simp; try with_reducible rfl
        try simp only [Act.put, List.setIfInBounds_toArray, List.set_cons_zero, List.set_cons_succ]
        refine draw_oneS 6 rfl (by kernel_rfl) (by rfl) (fun K hK => ?_)
        go_simp
        refine (HGK.out _ hSS).mono ?_
        rintro e wa ⟨rfl, hg2⟩
        have hSS2 := hSS.trans hg2
        clear hSS hg2
        have hSS := hSS2
        clear hSS2
        refine hK.out _ _ hSS ?_
        clear hK K
        try simp only [Act.put, List.setIfInBounds_toArray, List.set_cons_zero, List.set_cons_succ]
        refine draw_takeS 12 (v := ?_) rfl (by kernel_rfl) (by kernel_rfl) (by kernel_rfl) (fun _ _ _ h => h) (by rfl) hSS ?_ ?_
        rotate_left
        · intro w hS; go_simp; try with_reducible rfl
        try simp only [Act.put, List.setIfInBounds_toArray, List.set_cons_zero, List.set_cons_succ]
        refine draw_oneS 19 rfl (by kernel_rfl) (by rfl) (fun K hK => ?_)
        go_simp
        refine (HGO.out _ hSS).mono ?_
        rintro e wb ⟨rfl, hg2⟩
        have hSS2 := hSS.trans hg2
        clear hSS hg2
        have hSS := hSS2
        clear hSS2
        refine hK.out _ _ hSS ?_
        clear hK K
        try simp only [Act.put, List.setIfInBounds_toArray, List.set_cons_zero, List.set_cons_succ]
        refine draw_takeS 25 (v := ?_) rfl (by kernel_rfl) (by kernel_rfl) (by kernel_rfl) (fun _ _ _ h => h) (by rfl) hSS ?_ ?_
        rotate_left
        · intro w hS; go_simp; try with_reducible rfl
        try simp only [Act.put, List.setIfInBounds_toArray, List.set_cons_zero, List.set_cons_succ]
        refine draw_takeS 26 (v := ?_) rfl (by kernel_rfl) (by kernel_rfl) (by kernel_rfl) (fun _ _ _ h => h) (by rfl) hSS ?_ ?_
        rotate_left
        · intro w hS; go_simp; try with_reducible rfl
        try simp only [Act.put, List.setIfInBounds_toArray, List.set_cons_zero, List.set_cons_succ]
        refine wpAnyH_done (by kernel_rfl) ?_ _
        go_wp2
        go_roundw
        case rel => exact ⟨k + 1, by omega, by go_num, HG.out.trans hSS⟩
        case measure => simp [intOf]; omega
      | false =>
        have hy : (GO.toList == s2.toList) = true := by cases h : (GO.toList == s2.toList) with
          | true => rfl
          | false => rw [hx, h] at hpg; simp at hpg
        clear hpg
        go_wp2
        refine wp_region_held_drew (S := fun w' => wr.grownBy w' none) (by kernel_rfl) (gb_drew (World.grownBy.refl wr none)) (fun hSS => ?_)
        refine draw_takeS 0 (v := ?_) rfl (by kernel_rfl) (by kernel_rfl) (by kernel_rfl) (fun _ _ _ h => h) (by rfl) hSS ?_ ?_
        rotate_left
        · intro w hS; have c0 := hS.cell a0 (by simp); have c1 := hS.cell a1 (by simp); go_simp; try with_reducible rfl
        try simp only [Act.put, List.setIfInBounds_toArray, List.set_cons_zero, List.set_cons_succ]
        refine draw_takeS 1 (v := ?_) rfl (by kernel_rfl) (by kernel_rfl) (by kernel_rfl) (fun _ _ _ h => h) (by rfl) hSS ?_ ?_
        rotate_left
        · intro w hS; have c0 := hS.cell a0 (by simp); have c1 := hS.cell a1 (by simp); go_simp; try with_reducible rfl
        try simp only [Act.put, List.setIfInBounds_toArray, List.set_cons_zero, List.set_cons_succ]
        refine draw_takeS 2 (v := ?_) rfl (by kernel_rfl) (by kernel_rfl) (by kernel_rfl) (fun _ _ _ h => h) (by rfl) hSS ?_ ?_
        rotate_left
        · intro w hS; have c0 := hS.cell a0 (by simp); have c1 := hS.cell a1 (by simp); go_simp; try with_reducible rfl
        try simp only [Act.put, List.setIfInBounds_toArray, List.set_cons_zero, List.set_cons_succ]
        refine draw_takeS 3 (v := ?_) rfl (by kernel_rfl) (by kernel_rfl) (by kernel_rfl) (fun _ _ _ h => h) (by rfl) hSS ?_ ?_
        rotate_left
        · intro w hS; have c0 := hS.cell a0 (by simp); have c1 := hS.cell a1 (by simp); go_simp; try with_reducible rfl
        try simp only [Act.put, List.setIfInBounds_toArray, List.set_cons_zero, List.set_cons_succ]
        refine draw_takeS 4 (v := ?_) rfl (by kernel_rfl) (by kernel_rfl) (by kernel_rfl) (fun _ _ _ h => h) (by rfl) hSS ?_ ?_
        rotate_left
        · intro w hS; have c0 := hS.cell a0 (by simp); have c1 := hS.cell a1 (by simp); go_simp; try with_reducible rfl
        try simp only [Act.put, List.setIfInBounds_toArray, List.set_cons_zero, List.set_cons_succ]
        refine draw_takeS 5 (v := ?_) rfl (by kernel_rfl) (by kernel_rfl) (by kernel_rfl) (fun _ _ _ h => h) (by rfl) hSS ?_ ?_
        rotate_left
        · intro w hS; have c0 := hS.cell a0 (by simp); have c1 := hS.cell a1 (by simp); go_simp; try with_reducible rfl
        try simp only [Act.put, List.setIfInBounds_toArray, List.set_cons_zero, List.set_cons_succ]
        refine draw_takeS 7 (v := ?_) rfl (by kernel_rfl) (by kernel_rfl) (by kernel_rfl) (fun _ _ _ h => h) (by rfl) hSS ?_ ?_
        rotate_left
        · intro w hS; have c0 := hS.cell a0 (by simp); have c1 := hS.cell a1 (by simp); go_simp; try with_reducible rfl
        try simp only [Act.put, List.setIfInBounds_toArray, List.set_cons_zero, List.set_cons_succ]
        refine draw_takeS 8 (v := ?_) rfl (by kernel_rfl) (by kernel_rfl) (by kernel_rfl) (fun _ _ _ h => h) (by rfl) hSS ?_ ?_
        rotate_left
        · intro w hS; have c0 := hS.cell a0 (by simp); have c1 := hS.cell a1 (by simp); go_simp; try with_reducible rfl
        try simp only [Act.put, List.setIfInBounds_toArray, List.set_cons_zero, List.set_cons_succ]
        refine draw_takeS 9 (v := ?_) rfl (by kernel_rfl) (by kernel_rfl) (by kernel_rfl) (fun _ _ _ h => h) (by rfl) hSS ?_ ?_
        rotate_left
        · intro w hS; have c0 := hS.cell a0 (by simp); have c1 := hS.cell a1 (by simp); go_simp; try with_reducible rfl
        try simp only [Act.put, List.setIfInBounds_toArray, List.set_cons_zero, List.set_cons_succ]
        refine draw_takeS 10 (v := ?_) rfl (by kernel_rfl) (by kernel_rfl) (by kernel_rfl) (fun _ _ _ h => h) (by rfl) hSS ?_ ?_
        rotate_left
        · intro w hS; have c0 := hS.cell a0 (by simp); have c1 := hS.cell a1 (by simp); go_simp; try with_reducible rfl
        try simp only [Act.put, List.setIfInBounds_toArray, List.set_cons_zero, List.set_cons_succ]
        refine draw_takeS 11 (v := ?_) rfl (by kernel_rfl) (by kernel_rfl) (by kernel_rfl) (fun _ _ _ h => h) (by rfl) hSS ?_ ?_
        rotate_left
        · intro w hS; have c0 := hS.cell a0 (by simp); have c1 := hS.cell a1 (by simp); go_simp; try with_reducible rfl
        try simp only [Act.put, List.setIfInBounds_toArray, List.set_cons_zero, List.set_cons_succ]
        refine draw_takeS 13 (v := ?_) rfl (by kernel_rfl) (by kernel_rfl) (by kernel_rfl) (fun _ _ _ h => h) (by rfl) hSS ?_ ?_
        rotate_left
        · intro w hS; have c0 := hS.cell a0 (by simp); have c1 := hS.cell a1 (by simp); go_simp; try with_reducible rfl
        try simp only [Act.put, List.setIfInBounds_toArray, List.set_cons_zero, List.set_cons_succ]
        refine draw_takeS 14 (v := ?_) rfl (by kernel_rfl) (by kernel_rfl) (by kernel_rfl) (fun _ _ _ h => h) (by rfl) hSS ?_ ?_
        rotate_left
        · intro w hS; have c0 := hS.cell a0 (by simp); have c1 := hS.cell a1 (by simp); go_simp; try with_reducible rfl
        try simp only [Act.put, List.setIfInBounds_toArray, List.set_cons_zero, List.set_cons_succ]
        refine draw_takeS 15 (v := ?_) rfl (by kernel_rfl) (by kernel_rfl) (by kernel_rfl) (fun _ _ _ h => h) (by rfl) hSS ?_ ?_
        rotate_left
        · intro w hS; have c0 := hS.cell a0 (by simp); have c1 := hS.cell a1 (by simp); go_simp; try with_reducible rfl
        try simp only [Act.put, List.setIfInBounds_toArray, List.set_cons_zero, List.set_cons_succ]
        refine draw_takeS 16 (v := ?_) rfl (by kernel_rfl) (by kernel_rfl) (by kernel_rfl) (fun _ _ _ h => h) (by rfl) hSS ?_ ?_
        rotate_left
        · intro w hS; have c0 := hS.cell a0 (by simp); have c1 := hS.cell a1 (by simp); go_simp; try with_reducible rfl
        try simp only [Act.put, List.setIfInBounds_toArray, List.set_cons_zero, List.set_cons_succ]
        refine draw_takeS 17 (v := ?_) rfl (by kernel_rfl) (by kernel_rfl) (by kernel_rfl) (fun _ _ _ h => h) (by rfl) hSS ?_ ?_
        rotate_left
        · intro w hS; have c0 := hS.cell a0 (by simp); have c1 := hS.cell a1 (by simp); go_simp; try with_reducible rfl
        try simp only [Act.put, List.setIfInBounds_toArray, List.set_cons_zero, List.set_cons_succ]
        refine draw_takeS 18 (v := ?_) rfl (by kernel_rfl) (by kernel_rfl) (by kernel_rfl) (fun _ _ _ h => h) (by rfl) hSS ?_ ?_
        rotate_left
        · intro w hS; have c0 := hS.cell a0 (by simp); have c1 := hS.cell a1 (by simp); go_simp; try with_reducible rfl
        try simp only [Act.put, List.setIfInBounds_toArray, List.set_cons_zero, List.set_cons_succ]
        refine draw_takeS 20 (v := ?_) rfl (by kernel_rfl) (by kernel_rfl) (by kernel_rfl) (fun _ _ _ h => h) (by rfl) hSS ?_ ?_
        rotate_left
        · intro w hS; have c0 := hS.cell a0 (by simp); have c1 := hS.cell a1 (by simp); go_simp; try with_reducible rfl
        try simp only [Act.put, List.setIfInBounds_toArray, List.set_cons_zero, List.set_cons_succ]
        refine draw_takeS 21 (v := ?_) rfl (by kernel_rfl) (by kernel_rfl) (by kernel_rfl) (fun _ _ _ h => h) (by rfl) hSS ?_ ?_
        rotate_left
        · intro w hS; have c0 := hS.cell a0 (by simp); have c1 := hS.cell a1 (by simp); go_simp; try with_reducible rfl
        try simp only [Act.put, List.setIfInBounds_toArray, List.set_cons_zero, List.set_cons_succ]
        refine draw_takeS 22 (v := ?_) rfl (by kernel_rfl) (by kernel_rfl) (by kernel_rfl) (fun _ _ _ h => h) (by rfl) hSS ?_ ?_
        rotate_left
        · intro w hS; have c0 := hS.cell a0 (by simp); have c1 := hS.cell a1 (by simp); go_simp; try with_reducible rfl
        try simp only [Act.put, List.setIfInBounds_toArray, List.set_cons_zero, List.set_cons_succ]
        refine draw_takeS 23 (v := ?_) rfl (by kernel_rfl) (by kernel_rfl) (by kernel_rfl) (fun _ _ _ h => h) (by rfl) hSS ?_ ?_
        rotate_left
        · intro w hS; have c0 := hS.cell a0 (by simp); have c1 := hS.cell a1 (by simp); go_simp; try with_reducible rfl
        try simp only [Act.put, List.setIfInBounds_toArray, List.set_cons_zero, List.set_cons_succ]
        refine draw_takeS 24 (v := ?_) rfl (by kernel_rfl) (by kernel_rfl) (by kernel_rfl) (fun _ _ _ h => h) (by rfl) hSS ?_ ?_
        rotate_left
        · intro w hS; have c0 := hS.cell a0 (by simp); have c1 := hS.cell a1 (by simp); go_simp; try with_reducible rfl
        try simp only [Act.put, List.setIfInBounds_toArray, List.set_cons_zero, List.set_cons_succ]
        refine draw_oneS 6 rfl (by kernel_rfl) (by rfl) (fun K hK => ?_)
        go_simp
        refine (HGK.out _ hSS).mono ?_
        rintro e wa ⟨rfl, hg2⟩
        have hSS2 := hSS.trans hg2
        clear hSS hg2
        have hSS := hSS2
        clear hSS2
        refine hK.out _ _ hSS ?_
        clear hK K
        try simp only [Act.put, List.setIfInBounds_toArray, List.set_cons_zero, List.set_cons_succ]
        refine draw_takeS 12 (v := ?_) rfl (by kernel_rfl) (by kernel_rfl) (by kernel_rfl) (fun _ _ _ h => h) (by rfl) hSS ?_ ?_
        rotate_left
        · intro w hS; go_simp; try with_reducible rfl
        try simp only [Act.put, List.setIfInBounds_toArray, List.set_cons_zero, List.set_cons_succ]
        refine draw_oneS 19 rfl (by kernel_rfl) (by rfl) (fun K hK => ?_)
        go_simp
        refine (HGO.out _ hSS).mono ?_
        rintro e wb ⟨rfl, hg2⟩
        have hSS2 := hSS.trans hg2
        clear hSS hg2
        have hSS := hSS2
        clear hSS2
        refine hK.out _ _ hSS ?_
        clear hK K
        try simp only [Act.put, List.setIfInBounds_toArray, List.set_cons_zero, List.set_cons_succ]
        refine draw_takeS 25 (v := ?_) rfl (by kernel_rfl) (by kernel_rfl) (by kernel_rfl) (fun _ _ _ h => h) (by rfl) hSS ?_ ?_
        rotate_left
        · intro w hS; go_simp; try with_reducible rfl
        try simp only [Act.put, List.setIfInBounds_toArray, List.set_cons_zero, List.set_cons_succ]
        refine draw_takeS 26 (v := ?_) rfl (by kernel_rfl) (by kernel_rfl) (by kernel_rfl) (fun _ _ _ h => h) (by rfl) hSS ?_ ?_
        rotate_left
        · intro w hS; go_simp; try with_reducible rfl
        try simp only [Act.put, List.setIfInBounds_toArray, List.set_cons_zero, List.set_cons_succ]
        refine wpAnyH_done (by kernel_rfl) ?_ _
        go_wp2
        go_roundw
        case rel => exact ⟨k + 1, by omega, by go_num, HG.out.trans hSS⟩
        case measure => simp [intOf]; omega
    · have hki : ¬ (k : Int) < (L : Int) := by omega
      have HE : Hid (W.grownBy wr none) := HU4.out.trans HG.out
      have hs : ((nk : Int) + (no : Int) == (L : Int)) = true := by simp; omega
      clear HGetK HGetO HG HU4
      go_wp2_with fail
      refine (HCp.out wr HE.out).mono ?_
      rintro e x1 ⟨g1, c1, rfl, ho1, hg1⟩
      have HO1 : Hid (LOwn x1 wr.heap.size g1 L c1 z0) := ho1
      have HE1 : Hid (W.grownBy x1 none) := HE.out.trans hg1
      clear ho1 hg1 HE
      go_wp2_with fail
      refine (HNone.out g1 c1 x1 HO1.out.rd).mono ?_
      rintro e x2 ⟨v2, n2, rfl, ho2, hg2⟩
      obtain ⟨b2, c2, rfl, -, -, -, -⟩ := sown_form ho2
      have HO2 : Hid (SOwn labE 52 x2 x1.heap.size (.slice b2 n2 c2) n2 Rst) := ho2
      have HE2 : Hid (W.grownBy x2 none) := HE1.out.trans hg2
      have hn2 : n2 ≤ 16 := by have h := SOwn.len ho2; have h2 := HRl.out; omega
      clear ho2 hg2 HE1 HO1
      go_wp2_with fail
      refine (HCp.out x2 HE2.out).mono ?_
      rintro e x3 ⟨g3, c3, rfl, ho3, hg3⟩
      have HO3 : Hid (LOwn x3 x2.heap.size g3 L c3 z0) := ho3
      have HO23 : Hid (SOwn labE 52 x3 x1.heap.size (.slice b2 n2 c2) n2 Rst) := SOwn.kept HO2.out hg3 (Classical.em _)
      have HE3 : Hid (W.grownBy x3 none) := HE2.out.trans hg3
      clear ho3 hg3 HE2 HO2
      go_wp2_with fail
      refine (HRest.out g3 c3 x3 HO3.out.rd).mono ?_
      rintro e x4 ⟨v4, n4, rfl, ho4, hg4⟩
      obtain ⟨b4, c4, rfl, -, -, -, -⟩ := sown_form ho4
      have HO4 : Hid (SOwn labE 52 x4 x3.heap.size (.slice b4 n4 c4) n4 Rst) := ho4
      have HO24 : Hid (SOwn labE 52 x4 x1.heap.size (.slice b2 n2 c2) n2 Rst) := SOwn.kept HO23.out hg4 (Classical.em _)
      have HE4 : Hid (W.grownBy x4 none) := HE3.out.trans hg4
      clear ho4 hg4 HE3 HO23 HO3
      go_wp2_with fail
      refine (lsame b2 b4 Rst Rst n2 n4 c2 c4 x4 (SOwn.rd HO24.out) (SOwn.rd HO4.out) (SOwn.len HO24.out) (SOwn.len HO4.out) (by omega)).mono ?_
      rintro e x5 ⟨rfl, hg5⟩
      rw [show decide (Rst = Rst) = true by simp]
      have HE5 : Hid (W.grownBy x5 none) := HE4.out.trans hg5
      clear hg5 HO4 HO24 HE4
      go_wp2_with fail
      refine (awake_lab x5).mono ?_
      rintro e x6 ⟨rfl, hg6⟩
      have HE6 : Hid (W.grownBy x6 none) := HE5.out.trans hg6
      clear hg6
      go_wp2
      go_ret
      exact ⟨rfl, gb_below HE6.out⟩

set_option maxHeartbeats 8000000 in
theorem labelWiths_many (a0 : Option Addr) (z0 : List Lab) (cap0 : Nat) (name value : ByteArray) (a1 : Option Addr) (z1 : List ByteArray) (cap1 : Nat) (W : World)
    (r0 : SRd labE W a0 z0) (n0 : a0 = none → cap0 = 0) (r1 : SRd strE W a1 z1) (n1 : a1 = none → cap1 = 0) (l1 : z1.length ≤ 8796093021952) (hC : checkR z0 = 0) (hone : checkR [(name, value)] = 0) (hX : ¬ (withR z0 name value).length ≤ 16) :
    Calls Try.prog 8 #[.slice a0 z0.length cap0, .string name, .string value, .slice a1 z1.length cap1] W fun e w' => e = .returned (.bool true) ∧ Below W.heap.size W w' := by
  have l0 : z0.length ≤ 16 := ((check_iff z0).1 hC).1
  obtain ⟨X, eX⟩ : ∃ X, withR z0 name value = X := ⟨_, rfl⟩
  obtain ⟨K, eK⟩ : ∃ K, someR z0 z1 true = K := ⟨_, rfl⟩
  obtain ⟨O, eO⟩ : ∃ O, someR z0 z1 false = O := ⟨_, rfl⟩
  obtain ⟨Rst, eR⟩ : ∃ O, someR z0 [name] false = O := ⟨_, rfl⟩
  obtain ⟨C1, eC1⟩ : ∃ C, checkR [(name, value)] = C := ⟨_, rfl⟩
  have HXl : Hid (X.length ≤ 17) := by show _ ≤ _; have := withR_len z0 name value; rw [eX] at this; omega
  have HKl : Hid (K.length ≤ 16) := by show _ ≤ _; have := someR_len z0 z1 true; rw [eK] at this; omega
  have HOl : Hid (O.length ≤ 16) := by show _ ≤ _; have := someR_len z0 z1 false; rw [eO] at this; omega
  have HRl : Hid (Rst.length ≤ 16) := by show _ ≤ _; have := someR_len z0 [name] false; rw [eR] at this; omega
  have HSum : Hid (K.length + O.length = z0.length) := by show _ = _; rw [← eK, ← eO]; exact parts_len z0 z1
  have HCp : Hid (∀ w, W.grownBy w none → Calls Try.prog 38 #[.slice a0 z0.length cap0] w fun e w' => ∃ g c, e = .returned (.slice (some ⟨g, 0, none⟩) z0.length c) ∧ LOwn w' w.heap.size g z0.length c z0 ∧ w.grownBy w' none) := fun w hg => lcopy a0 z0 _ cap0 w (r0.grown hg (by simp)) rfl n0 (by omega)
  have HCk : Hid (∀ (g c : Nat) (w : World), SRd labE w (some ⟨g, 0, none⟩) z0 → Calls Try.prog 10 #[.slice (some ⟨g, 0, none⟩) z0.length c] w fun e w' => e = .returned (.int .i64 0) ∧ w.grownBy w' none) := fun g c w h => f_check _ z0 _ c 0 w h rfl (by omega) hC
  have HOne : Hid (∀ w : World, Calls Try.prog 10 #[.slice (some ⟨w.heap.size, 0, none⟩) 1 1] (w.alloc (.cells #[.string name, .string value] 52)) fun e w' => e = .returned (.int .i64 C1) ∧ w.grownBy w' none) := fun w => (f_check _ [(name, value)] 1 1 C1 _ (llit w [(name, value)]) rfl (by omega) eC1).mono (by rintro e w' ⟨rfl, hg⟩; exact ⟨rfl, (World.grownBy_alloc w _ none).trans hg⟩)
  have HWith : Hid (∀ (g c : Nat) (w : World), SRd labE w (some ⟨g, 0, none⟩) z0 → Calls Try.prog 30 #[.slice (some ⟨g, 0, none⟩) z0.length c, .string name, .string value] w fun e w' => ∃ v n, e = .returned v ∧ SOwn labE 52 w' w.heap.size v n X ∧ w.grownBy w' none) := fun g c w h => f_with _ z0 _ c name value X w h rfl (by omega) eX
  have HNone : Hid (∀ (g c : Nat) (w : World), SRd labE w (some ⟨g, 0, none⟩) z0 → Calls Try.prog 30 #[.slice (some ⟨g, 0, none⟩) z0.length c, .string name, .string ⟨#[]⟩] w fun e w' => ∃ v n, e = .returned v ∧ SOwn labE 52 w' w.heap.size v n Rst ∧ w.grownBy w' none) := fun g c w h => f_with _ z0 _ c name ⟨#[]⟩ Rst w h rfl (by omega) (by rw [with_none, eR])
  have HKeep : Hid (∀ (g c : Nat) (w : World), W.grownBy w none → SRd labE w (some ⟨g, 0, none⟩) z0 → Calls Try.prog 31 #[.slice (some ⟨g, 0, none⟩) z0.length c, .slice a1 z1.length cap1] w fun e w' => ∃ v n, e = .returned v ∧ SOwn labE 52 w' w.heap.size v n K ∧ w.grownBy w' none) := fun g c w hg hh => f_keep _ _ z0 z1 _ _ c cap1 K w hh (r1.grown hg (by simp)) rfl rfl (by omega) (by omega) eK
  have HWout : Hid (∀ (g c : Nat) (w : World), W.grownBy w none → SRd labE w (some ⟨g, 0, none⟩) z0 → Calls Try.prog 32 #[.slice (some ⟨g, 0, none⟩) z0.length c, .slice a1 z1.length cap1] w fun e w' => ∃ v n, e = .returned v ∧ SOwn labE 52 w' w.heap.size v n O ∧ w.grownBy w' none) := fun g c w hg hh => f_without _ _ z0 z1 _ _ c cap1 O w hh (r1.grown hg (by simp)) rfl rfl (by omega) (by omega) eO
  have HRest : Hid (∀ (g c : Nat) (w : World), SRd labE w (some ⟨g, 0, none⟩) z0 → Calls Try.prog 32 #[.slice (some ⟨g, 0, none⟩) z0.length c, .slice (some ⟨w.heap.size, 0, none⟩) 1 1] (w.alloc (.cells #[.string name] 9)) fun e w' => ∃ v n, e = .returned v ∧ SOwn labE 52 w' w.heap.size v n Rst ∧ w.grownBy w' none) := fun g c w hh => (f_without _ _ z0 [name] _ 1 c 1 Rst _ (hh.grown (World.grownBy_alloc w (.cells #[.string name] 9) none) (by simp)) (tlit w [name]) rfl rfl (by omega) (by omega) eR).mono (by
    rintro e w' ⟨v, n, rfl, ho, hg⟩
    exact ⟨v, n, rfl, ho.base (World.grownBy_alloc w _ none).size, (World.grownBy_alloc w _ none).trans hg⟩)
  have HAt : Hid (∀ k, k < z0.length → ∃ b off, a0 = some ⟨b, off, none⟩ ∧ ∃ s1 s2, W.cell? ⟨b, off + k * 2, none⟩ = some (.string s1) ∧ W.cell? ⟨b, off + k * 2 + 1, none⟩ = some (.string s2) ∧ (((getR K s1).toList == s2.toList) == ((getR O s1).toList == s2.toList)) = false) := by
    intro k hk
    obtain ⟨b, off, rfl, hc⟩ := r0.at (by omega)
    obtain ⟨⟨s1, s2⟩, ex⟩ : ∃ x, z0[k]? = some x := ⟨_, List.getElem?_eq_getElem (by omega)⟩
    have h := parts_get hC z1 ex
    rw [eK, eO] at h
    exact ⟨b, off, rfl, s1, s2, hc k _ 0 _ ex rfl, by rw [Nat.add_assoc]; exact hc k _ 1 _ ex rfl, h⟩
  have h1 : (C1 == 0) = true := by rw [← eC1]; simpa using hone
  rw [eX] at hX
  clear hone
  obtain ⟨L, eL⟩ : ∃ L, L = z0.length := ⟨_, rfl⟩
  obtain ⟨M, eM⟩ : ∃ M, M = z1.length := ⟨_, rfl⟩
  rw [← eL] at HCp HCk HWith HNone HKeep HWout HRest HAt HSum l0 ⊢
  rw [← eM] at HKeep HWout l1 ⊢
  clear r0 r1 n0 n1 eL eM eX eK eO eR eC1 hC
  go_enter Try.func8, Try.ntmps8
  go_wp2_with fail
  refine (HCp.out W (World.grownBy.refl _ _)).mono ?_
  rintro e w1 ⟨g1, c1, rfl, ho1, hg1⟩
  have HO1 : Hid (LOwn w1 W.heap.size g1 L c1 z0) := ho1
  have HG1 : Hid (W.grownBy w1 none) := hg1
  clear ho1 hg1
  go_wp2_with fail
  refine (HCk.out g1 c1 w1 HO1.out.rd).mono ?_
  rintro e w2 ⟨rfl, hg2⟩
  have HG2 : Hid (W.grownBy w2 none) := HG1.out.trans hg2
  clear hg2 HO1 HG1 HCk
  go_wp2_with fail
  refine (HOne.out w2).mono ?_
  rintro e w3 ⟨rfl, hg3⟩
  have HG3 : Hid (W.grownBy w3 none) := HG2.out.trans hg3
  clear hg3 HG2 HOne
  go_wp2_with fail
  refine (HCp.out w3 HG3.out).mono ?_
  rintro e w4 ⟨g4, c4, rfl, ho4, hg4⟩
  have HO4 : Hid (LOwn w4 w3.heap.size g4 L c4 z0) := ho4
  have HG4 : Hid (W.grownBy w4 none) := HG3.out.trans hg4
  clear ho4 hg4 HG3
  go_wp2_with fail
  refine (HWith.out g4 c4 w4 HO4.out.rd).mono ?_
  rintro e w5 ⟨v5, n5, rfl, ho5, hg5⟩
  obtain ⟨b5, c5, rfl, -, -, -, -⟩ := sown_form ho5
  have HO5 : Hid (SOwn labE 52 w5 w4.heap.size (.slice b5 n5 c5) n5 X) := ho5
  have hn5 : X.length = n5 := SOwn.len ho5
  have hn5b : n5 ≤ 17 := by have := HXl.out; omega
  have HG5 : Hid (W.grownBy w5 none) := HG4.out.trans hg5
  clear ho5 hg5 HG4 HO4 HWith
  have h2 : decide ((n5 : Int) ≤ 16) = false := by simp; omega
  clear hn5 HXl HO5
  obtain ⟨wT, eT⟩ : ∃ x, x = w5 := ⟨_, rfl⟩
  rw [← eT] at HG5 ⊢
  have HGT : Hid (W.grownBy wT none) := HG5.out
  clear eT HG5
  go_wp2_with fail
  refine (HCp.out wT HGT.out).mono ?_
  rintro e u1 ⟨g1, c1, rfl, ho1, hg1⟩
  have HO1 : Hid (LOwn u1 wT.heap.size g1 L c1 z0) := ho1
  have HU1 : Hid (W.grownBy u1 none) := HGT.out.trans hg1
  clear ho1 hg1 HGT
  go_wp2_with fail
  refine (HKeep.out g1 c1 u1 HU1.out HO1.out.rd).mono ?_
  rintro e u2 ⟨v2, nk, rfl, ho2, hg2⟩
  obtain ⟨bk, ck, rfl, -, -, -, -⟩ := sown_form ho2
  have HOK : Hid (SOwn labE 52 u2 u1.heap.size (.slice bk nk ck) nk K) := ho2
  have HU2 : Hid (W.grownBy u2 none) := HU1.out.trans hg2
  clear ho2 hg2 HU1 HO1
  go_wp2_with fail
  refine (HCp.out u2 HU2.out).mono ?_
  rintro e u3 ⟨g3, c3, rfl, ho3, hg3⟩
  have HO3 : Hid (LOwn u3 u2.heap.size g3 L c3 z0) := ho3
  have HU3 : Hid (W.grownBy u3 none) := HU2.out.trans hg3
  have HU23 : Hid (u2.grownBy u3 none) := hg3
  clear ho3 hg3 HU2
  go_wp2_with fail
  refine (HWout.out g3 c3 u3 HU3.out HO3.out.rd).mono ?_
  rintro e u4 ⟨v4, no, rfl, ho4, hg4⟩
  obtain ⟨bo, co, rfl, -, -, -, -⟩ := sown_form ho4
  have HOO : Hid (SOwn labE 52 u4 u3.heap.size (.slice bo no co) no O) := ho4
  have HU4 : Hid (W.grownBy u4 none) := HU3.out.trans hg4
  have HOK4 : Hid (SOwn labE 52 u4 u1.heap.size (.slice bk nk ck) nk K) := SOwn.kept HOK.out (HU23.out.trans hg4) (Classical.em _)
  have hnk : nk ≤ 16 := by have h := SOwn.len HOK.out; have h2 := HKl.out; omega
  have hno : no ≤ 16 := by have h := SOwn.len ho4; have h2 := HOl.out; omega
  have HGetK : Hid (∀ (s R : ByteArray) (w : World), getR K s = R → u4.grownBy w none → Calls Try.prog 29 #[.slice bk nk ck, .string s] w fun e w' => e = .returned (.string R) ∧ w.grownBy w' none) := fun s R w hR hg => f_get bk K nk ck s R w (SRd.grown (SOwn.rd HOK4.out) hg (by simp)) (SOwn.len HOK4.out) (by omega) hR
  have HGetO : Hid (∀ (s R : ByteArray) (w : World), getR O s = R → u4.grownBy w none → Calls Try.prog 29 #[.slice bo no co, .string s] w fun e w' => e = .returned (.string R) ∧ w.grownBy w' none) := fun s R w hR hg => f_get bo O no co s R w (SRd.grown (SOwn.rd HOO.out) hg (by simp)) (SOwn.len HOO.out) (by omega) hR
  have hsum : nk + no = L := by have h1 := SOwn.len HOK.out; have h2 := SOwn.len ho4; have h3 := HSum.out; omega
  clear ho4 hg4 HU3 HOK HO3 HU23 HOK4 HOO
  go_wp2
  go_loopw [13] (fun i wr => ∃ k : Nat, k ≤ L ∧ i = .int .i64 k ∧ u4.grownBy wr none) (fun i _ => L - (intOf i).toNat)
  case atStart => exact ⟨0, Nat.zero_le _, rfl, World.grownBy.refl _ _⟩
  case round =>
    obtain ⟨k, hk, rfl, hg⟩ := hrel
    have HG : Hid (u4.grownBy wr none) := hg
    clear hg
    by_cases hlt : k < L
    · obtain ⟨b, off, rfl, s1, s2, hc0, hc1, hpg⟩ := HAt.out k hlt
      have a0 : wr.cell? ⟨b, off + k * 2, none⟩ = some (.string s1) := (HU4.out.trans HG.out).cell hc0 (by simp)
      have a1 : wr.cell? ⟨b, off + k * 2 + 1, none⟩ = some (.string s2) := (HU4.out.trans HG.out).cell hc1 (by simp)
      obtain ⟨GK, eGK⟩ : ∃ G, getR K s1 = G := ⟨_, rfl⟩
      obtain ⟨GO, eGO⟩ : ∃ G, getR O s1 = G := ⟨_, rfl⟩
      have HGK : Hid (∀ w, wr.grownBy w none → Calls Try.prog 29 #[.slice bk nk ck, .string s1] w fun e w' => e = .returned (.string GK) ∧ w.grownBy w' none) := fun w hg => HGetK.out s1 GK w eGK (HG.out.trans hg)
      have HGO : Hid (∀ w, wr.grownBy w none → Calls Try.prog 29 #[.slice bo no co, .string s1] w fun e w' => e = .returned (.string GO) ∧ w.grownBy w' none) := fun w hg => HGetO.out s1 GO w eGO (HG.out.trans hg)
      rw [eGK, eGO] at hpg
      have hki : (k : Int) < (L : Int) := by omega
      clear hc0 hc1 eGK eGO HGetK HGetO
      cases hx : (GK.toList == s2.toList) with
      | true =>
        have hy : (GO.toList == s2.toList) = false := by cases h : (GO.toList == s2.toList) with
          | false => rfl
          | true => rw [hx, h] at hpg; simp at hpg
        clear hpg
        go_wp2
        refine wp_region_held_drew (S := fun w' => wr.grownBy w' none) (by kernel_rfl) (gb_drew (World.grownBy.refl wr none)) (fun hSS => ?_)
        refine draw_takeS 0 (v := ?_) rfl (by kernel_rfl) (by kernel_rfl) (by kernel_rfl) (fun _ _ _ h => h) (by rfl) hSS ?_ ?_
        rotate_left
        · intro w hS; have c0 := hS.cell a0 (by simp); have c1 := hS.cell a1 (by simp); go_simp; try with_reducible rfl
        try simp only [Act.put, List.setIfInBounds_toArray, List.set_cons_zero, List.set_cons_succ]
        refine draw_takeS 1 (v := ?_) rfl (by kernel_rfl) (by kernel_rfl) (by kernel_rfl) (fun _ _ _ h => h) (by rfl) hSS ?_ ?_
        rotate_left
        · intro w hS; have c0 := hS.cell a0 (by simp); have c1 := hS.cell a1 (by simp); go_simp; try with_reducible rfl
        try simp only [Act.put, List.setIfInBounds_toArray, List.set_cons_zero, List.set_cons_succ]
        refine draw_takeS 2 (v := ?_) rfl (by kernel_rfl) (by kernel_rfl) (by kernel_rfl) (fun _ _ _ h => h) (by rfl) hSS ?_ ?_
        rotate_left
        · intro w hS; have c0 := hS.cell a0 (by simp); have c1 := hS.cell a1 (by simp); go_simp; try with_reducible rfl
        try simp only [Act.put, List.setIfInBounds_toArray, List.set_cons_zero, List.set_cons_succ]
        refine draw_takeS 3 (v := ?_) rfl (by kernel_rfl) (by kernel_rfl) (by kernel_rfl) (fun _ _ _ h => h) (by rfl) hSS ?_ ?_
        rotate_left
        · intro w hS; have c0 := hS.cell a0 (by simp); have c1 := hS.cell a1 (by simp); go_simp; try with_reducible rfl
        try simp only [Act.put, List.setIfInBounds_toArray, List.set_cons_zero, List.set_cons_succ]
        refine draw_takeS 4 (v := ?_) rfl (by kernel_rfl) (by kernel_rfl) (by kernel_rfl) (fun _ _ _ h => h) (by rfl) hSS ?_ ?_
        rotate_left
        · intro w hS; have c0 := hS.cell a0 (by simp); have c1 := hS.cell a1 (by simp); go_simp; try with_reducible rfl
        try simp only [Act.put, List.setIfInBounds_toArray, List.set_cons_zero, List.set_cons_succ]
        refine draw_takeS 5 (v := ?_) rfl (by kernel_rfl) (by kernel_rfl) (by kernel_rfl) (fun _ _ _ h => h) (by rfl) hSS ?_ ?_
        rotate_left
        · intro w hS; have c0 := hS.cell a0 (by simp); have c1 := hS.cell a1 (by simp); go_simp; try with_reducible rfl
        try simp only [Act.put, List.setIfInBounds_toArray, List.set_cons_zero, List.set_cons_succ]
        refine draw_takeS 7 (v := ?_) rfl (by kernel_rfl) (by kernel_rfl) (by kernel_rfl) (fun _ _ _ h => h) (by rfl) hSS ?_ ?_
        rotate_left
        · intro w hS; have c0 := hS.cell a0 (by simp); have c1 := hS.cell a1 (by simp); go_simp; try with_reducible rfl
        try simp only [Act.put, List.setIfInBounds_toArray, List.set_cons_zero, List.set_cons_succ]
        refine draw_takeS 8 (v := ?_) rfl (by kernel_rfl) (by kernel_rfl) (by kernel_rfl) (fun _ _ _ h => h) (by rfl) hSS ?_ ?_
        rotate_left
        · intro w hS; have c0 := hS.cell a0 (by simp); have c1 := hS.cell a1 (by simp); go_simp; try with_reducible rfl
        try simp only [Act.put, List.setIfInBounds_toArray, List.set_cons_zero, List.set_cons_succ]
        refine draw_takeS 9 (v := ?_) rfl (by kernel_rfl) (by kernel_rfl) (by kernel_rfl) (fun _ _ _ h => h) (by rfl) hSS ?_ ?_
        rotate_left
        · intro w hS; have c0 := hS.cell a0 (by simp); have c1 := hS.cell a1 (by simp); go_simp; try with_reducible rfl
        try simp only [Act.put, List.setIfInBounds_toArray, List.set_cons_zero, List.set_cons_succ]
        refine draw_takeS 10 (v := ?_) rfl (by kernel_rfl) (by kernel_rfl) (by kernel_rfl) (fun _ _ _ h => h) (by rfl) hSS ?_ ?_
        rotate_left
        · intro w hS; have c0 := hS.cell a0 (by simp); have c1 := hS.cell a1 (by simp); go_simp; try with_reducible rfl
        try simp only [Act.put, List.setIfInBounds_toArray, List.set_cons_zero, List.set_cons_succ]
        refine draw_takeS 11 (v := ?_) rfl (by kernel_rfl) (by kernel_rfl) (by kernel_rfl) (fun _ _ _ h => h) (by rfl) hSS ?_ ?_
        rotate_left
        · intro w hS; have c0 := hS.cell a0 (by simp); have c1 := hS.cell a1 (by simp); go_simp; try with_reducible rfl
        try simp only [Act.put, List.setIfInBounds_toArray, List.set_cons_zero, List.set_cons_succ]
        refine draw_takeS 13 (v := ?_) rfl (by kernel_rfl) (by kernel_rfl) (by kernel_rfl) (fun _ _ _ h => h) (by rfl) hSS ?_ ?_
        rotate_left
        · intro w hS; have c0 := hS.cell a0 (by simp); have c1 := hS.cell a1 (by simp); go_simp; try with_reducible rfl
        try simp only [Act.put, List.setIfInBounds_toArray, List.set_cons_zero, List.set_cons_succ]
        refine draw_takeS 14 (v := ?_) rfl (by kernel_rfl) (by kernel_rfl) (by kernel_rfl) (fun _ _ _ h => h) (by rfl) hSS ?_ ?_
        rotate_left
        · intro w hS; have c0 := hS.cell a0 (by simp); have c1 := hS.cell a1 (by simp); go_simp; try with_reducible rfl
        try simp only [Act.put, List.setIfInBounds_toArray, List.set_cons_zero, List.set_cons_succ]
        refine draw_takeS 15 (v := ?_) rfl (by kernel_rfl) (by kernel_rfl) (by kernel_rfl) (fun _ _ _ h => h) (by rfl) hSS ?_ ?_
        rotate_left
        · intro w hS; have c0 := hS.cell a0 (by simp); have c1 := hS.cell a1 (by simp); go_simp; try with_reducible rfl
        try simp only [Act.put, List.setIfInBounds_toArray, List.set_cons_zero, List.set_cons_succ]
        refine draw_takeS 16 (v := ?_) rfl (by kernel_rfl) (by kernel_rfl) (by kernel_rfl) (fun _ _ _ h => h) (by rfl) hSS ?_ ?_
        rotate_left
        · intro w hS; have c0 := hS.cell a0 (by simp); have c1 := hS.cell a1 (by simp); go_simp; try with_reducible rfl
        try simp only [Act.put, List.setIfInBounds_toArray, List.set_cons_zero, List.set_cons_succ]
        refine draw_takeS 17 (v := ?_) rfl (by kernel_rfl) (by kernel_rfl) (by kernel_rfl) (fun _ _ _ h => h) (by rfl) hSS ?_ ?_
        rotate_left
        · intro w hS; have c0 := hS.cell a0 (by simp); have c1 := hS.cell a1 (by simp); go_simp; try with_reducible rfl
        try simp only [Act.put, List.setIfInBounds_toArray, List.set_cons_zero, List.set_cons_succ]
        refine draw_takeS 18 (v := ?_) rfl (by kernel_rfl) (by kernel_rfl) (by kernel_rfl) (fun _ _ _ h => h) (by rfl) hSS ?_ ?_
        rotate_left
        · intro w hS; have c0 := hS.cell a0 (by simp); have c1 := hS.cell a1 (by simp); go_simp; try with_reducible rfl
        try simp only [Act.put, List.setIfInBounds_toArray, List.set_cons_zero, List.set_cons_succ]
        refine draw_takeS 20 (v := ?_) rfl (by kernel_rfl) (by kernel_rfl) (by kernel_rfl) (fun _ _ _ h => h) (by rfl) hSS ?_ ?_
        rotate_left
        · intro w hS; have c0 := hS.cell a0 (by simp); have c1 := hS.cell a1 (by simp); go_simp; try with_reducible rfl
        try simp only [Act.put, List.setIfInBounds_toArray, List.set_cons_zero, List.set_cons_succ]
        refine draw_takeS 21 (v := ?_) rfl (by kernel_rfl) (by kernel_rfl) (by kernel_rfl) (fun _ _ _ h => h) (by rfl) hSS ?_ ?_
        rotate_left
        · intro w hS; have c0 := hS.cell a0 (by simp); have c1 := hS.cell a1 (by simp); go_simp; try with_reducible rfl
        try simp only [Act.put, List.setIfInBounds_toArray, List.set_cons_zero, List.set_cons_succ]
        refine draw_takeS 22 (v := ?_) rfl (by kernel_rfl) (by kernel_rfl) (by kernel_rfl) (fun _ _ _ h => h) (by rfl) hSS ?_ ?_
        rotate_left
        · intro w hS; have c0 := hS.cell a0 (by simp); have c1 := hS.cell a1 (by simp); go_simp; try with_reducible rfl
        try simp only [Act.put, List.setIfInBounds_toArray, List.set_cons_zero, List.set_cons_succ]
        refine draw_takeS 23 (v := ?_) rfl (by kernel_rfl) (by kernel_rfl) (by kernel_rfl) (fun _ _ _ h => h) (by rfl) hSS ?_ ?_
        rotate_left
        · intro w hS; have c0 := hS.cell a0 (by simp); have c1 := hS.cell a1 (by simp); go_simp; try with_reducible rfl
        try simp only [Act.put, List.setIfInBounds_toArray, List.set_cons_zero, List.set_cons_succ]
        refine draw_takeS 24 (v := ?_) rfl (by kernel_rfl) (by kernel_rfl) (by kernel_rfl) (fun _ _ _ h => h) (by rfl) hSS ?_ ?_
        rotate_left
        · intro w hS; have c0 := hS.cell a0 (by simp); have c1 := hS.cell a1 (by simp); go_simp; try with_reducible rfl
        try simp only [Act.put, List.setIfInBounds_toArray, List.set_cons_zero, List.set_cons_succ]
        refine draw_oneS 6 rfl (by kernel_rfl) (by rfl) (fun K hK => ?_)
        go_simp
        refine (HGK.out _ hSS).mono ?_
        rintro e wa ⟨rfl, hg2⟩
        have hSS2 := hSS.trans hg2
        clear hSS hg2
        have hSS := hSS2
        clear hSS2
        refine hK.out _ _ hSS ?_
        clear hK K
        try simp only [Act.put, List.setIfInBounds_toArray, List.set_cons_zero, List.set_cons_succ]
        refine draw_takeS 12 (v := ?_) rfl (by kernel_rfl) (by kernel_rfl) (by kernel_rfl) (fun _ _ _ h => h) (by rfl) hSS ?_ ?_
        rotate_left
        · intro w hS; go_simp; try with_reducible rfl
        try simp only [Act.put, List.setIfInBounds_toArray, List.set_cons_zero, List.set_cons_succ]
        refine draw_oneS 19 rfl (by kernel_rfl) (by rfl) (fun K hK => ?_)
        go_simp
        refine (HGO.out _ hSS).mono ?_
        rintro e wb ⟨rfl, hg2⟩
        have hSS2 := hSS.trans hg2
        clear hSS hg2
        have hSS := hSS2
        clear hSS2
        refine hK.out _ _ hSS ?_
        clear hK K
        try simp only [Act.put, List.setIfInBounds_toArray, List.set_cons_zero, List.set_cons_succ]
        refine draw_takeS 25 (v := ?_) rfl (by kernel_rfl) (by kernel_rfl) (by kernel_rfl) (fun _ _ _ h => h) (by rfl) hSS ?_ ?_
        rotate_left
        · intro w hS; go_simp; try with_reducible rfl
        try simp only [Act.put, List.setIfInBounds_toArray, List.set_cons_zero, List.set_cons_succ]
        refine draw_takeS 26 (v := ?_) rfl (by kernel_rfl) (by kernel_rfl) (by kernel_rfl) (fun _ _ _ h => h) (by rfl) hSS ?_ ?_
        rotate_left
        · intro w hS; go_simp; try with_reducible rfl
        try simp only [Act.put, List.setIfInBounds_toArray, List.set_cons_zero, List.set_cons_succ]
        refine wpAnyH_done (by kernel_rfl) ?_ _
        go_wp2
        go_roundw
        case rel => exact ⟨k + 1, by omega, by go_num, HG.out.trans hSS⟩
        case measure => simp [intOf]; omega
      | false =>
        have hy : (GO.toList == s2.toList) = true := by cases h : (GO.toList == s2.toList) with
          | true => rfl
          | false => rw [hx, h] at hpg; simp at hpg
        clear hpg
        go_wp2
        refine wp_region_held_drew (S := fun w' => wr.grownBy w' none) (by kernel_rfl) (gb_drew (World.grownBy.refl wr none)) (fun hSS => ?_)
        refine draw_takeS 0 (v := ?_) rfl (by kernel_rfl) (by kernel_rfl) (by kernel_rfl) (fun _ _ _ h => h) (by rfl) hSS ?_ ?_
        rotate_left
        · intro w hS; have c0 := hS.cell a0 (by simp); have c1 := hS.cell a1 (by simp); go_simp; try with_reducible rfl
        try simp only [Act.put, List.setIfInBounds_toArray, List.set_cons_zero, List.set_cons_succ]
        refine draw_takeS 1 (v := ?_) rfl (by kernel_rfl) (by kernel_rfl) (by kernel_rfl) (fun _ _ _ h => h) (by rfl) hSS ?_ ?_
        rotate_left
        · intro w hS; have c0 := hS.cell a0 (by simp); have c1 := hS.cell a1 (by simp); go_simp; try with_reducible rfl
        try simp only [Act.put, List.setIfInBounds_toArray, List.set_cons_zero, List.set_cons_succ]
        refine draw_takeS 2 (v := ?_) rfl (by kernel_rfl) (by kernel_rfl) (by kernel_rfl) (fun _ _ _ h => h) (by rfl) hSS ?_ ?_
        rotate_left
        · intro w hS; have c0 := hS.cell a0 (by simp); have c1 := hS.cell a1 (by simp); go_simp; try with_reducible rfl
        try simp only [Act.put, List.setIfInBounds_toArray, List.set_cons_zero, List.set_cons_succ]
        refine draw_takeS 3 (v := ?_) rfl (by kernel_rfl) (by kernel_rfl) (by kernel_rfl) (fun _ _ _ h => h) (by rfl) hSS ?_ ?_
        rotate_left
        · intro w hS; have c0 := hS.cell a0 (by simp); have c1 := hS.cell a1 (by simp); go_simp; try with_reducible rfl
        try simp only [Act.put, List.setIfInBounds_toArray, List.set_cons_zero, List.set_cons_succ]
        refine draw_takeS 4 (v := ?_) rfl (by kernel_rfl) (by kernel_rfl) (by kernel_rfl) (fun _ _ _ h => h) (by rfl) hSS ?_ ?_
        rotate_left
        · intro w hS; have c0 := hS.cell a0 (by simp); have c1 := hS.cell a1 (by simp); go_simp; try with_reducible rfl
        try simp only [Act.put, List.setIfInBounds_toArray, List.set_cons_zero, List.set_cons_succ]
        refine draw_takeS 5 (v := ?_) rfl (by kernel_rfl) (by kernel_rfl) (by kernel_rfl) (fun _ _ _ h => h) (by rfl) hSS ?_ ?_
        rotate_left
        · intro w hS; have c0 := hS.cell a0 (by simp); have c1 := hS.cell a1 (by simp); go_simp; try with_reducible rfl
        try simp only [Act.put, List.setIfInBounds_toArray, List.set_cons_zero, List.set_cons_succ]
        refine draw_takeS 7 (v := ?_) rfl (by kernel_rfl) (by kernel_rfl) (by kernel_rfl) (fun _ _ _ h => h) (by rfl) hSS ?_ ?_
        rotate_left
        · intro w hS; have c0 := hS.cell a0 (by simp); have c1 := hS.cell a1 (by simp); go_simp; try with_reducible rfl
        try simp only [Act.put, List.setIfInBounds_toArray, List.set_cons_zero, List.set_cons_succ]
        refine draw_takeS 8 (v := ?_) rfl (by kernel_rfl) (by kernel_rfl) (by kernel_rfl) (fun _ _ _ h => h) (by rfl) hSS ?_ ?_
        rotate_left
        · intro w hS; have c0 := hS.cell a0 (by simp); have c1 := hS.cell a1 (by simp); go_simp; try with_reducible rfl
        try simp only [Act.put, List.setIfInBounds_toArray, List.set_cons_zero, List.set_cons_succ]
        refine draw_takeS 9 (v := ?_) rfl (by kernel_rfl) (by kernel_rfl) (by kernel_rfl) (fun _ _ _ h => h) (by rfl) hSS ?_ ?_
        rotate_left
        · intro w hS; have c0 := hS.cell a0 (by simp); have c1 := hS.cell a1 (by simp); go_simp; try with_reducible rfl
        try simp only [Act.put, List.setIfInBounds_toArray, List.set_cons_zero, List.set_cons_succ]
        refine draw_takeS 10 (v := ?_) rfl (by kernel_rfl) (by kernel_rfl) (by kernel_rfl) (fun _ _ _ h => h) (by rfl) hSS ?_ ?_
        rotate_left
        · intro w hS; have c0 := hS.cell a0 (by simp); have c1 := hS.cell a1 (by simp); go_simp; try with_reducible rfl
        try simp only [Act.put, List.setIfInBounds_toArray, List.set_cons_zero, List.set_cons_succ]
        refine draw_takeS 11 (v := ?_) rfl (by kernel_rfl) (by kernel_rfl) (by kernel_rfl) (fun _ _ _ h => h) (by rfl) hSS ?_ ?_
        rotate_left
        · intro w hS; have c0 := hS.cell a0 (by simp); have c1 := hS.cell a1 (by simp); go_simp; try with_reducible rfl
        try simp only [Act.put, List.setIfInBounds_toArray, List.set_cons_zero, List.set_cons_succ]
        refine draw_takeS 13 (v := ?_) rfl (by kernel_rfl) (by kernel_rfl) (by kernel_rfl) (fun _ _ _ h => h) (by rfl) hSS ?_ ?_
        rotate_left
        · intro w hS; have c0 := hS.cell a0 (by simp); have c1 := hS.cell a1 (by simp); go_simp; try with_reducible rfl
        try simp only [Act.put, List.setIfInBounds_toArray, List.set_cons_zero, List.set_cons_succ]
        refine draw_takeS 14 (v := ?_) rfl (by kernel_rfl) (by kernel_rfl) (by kernel_rfl) (fun _ _ _ h => h) (by rfl) hSS ?_ ?_
        rotate_left
        · intro w hS; have c0 := hS.cell a0 (by simp); have c1 := hS.cell a1 (by simp); go_simp; try with_reducible rfl
        try simp only [Act.put, List.setIfInBounds_toArray, List.set_cons_zero, List.set_cons_succ]
        refine draw_takeS 15 (v := ?_) rfl (by kernel_rfl) (by kernel_rfl) (by kernel_rfl) (fun _ _ _ h => h) (by rfl) hSS ?_ ?_
        rotate_left
        · intro w hS; have c0 := hS.cell a0 (by simp); have c1 := hS.cell a1 (by simp); go_simp; try with_reducible rfl
        try simp only [Act.put, List.setIfInBounds_toArray, List.set_cons_zero, List.set_cons_succ]
        refine draw_takeS 16 (v := ?_) rfl (by kernel_rfl) (by kernel_rfl) (by kernel_rfl) (fun _ _ _ h => h) (by rfl) hSS ?_ ?_
        rotate_left
        · intro w hS; have c0 := hS.cell a0 (by simp); have c1 := hS.cell a1 (by simp); go_simp; try with_reducible rfl
        try simp only [Act.put, List.setIfInBounds_toArray, List.set_cons_zero, List.set_cons_succ]
        refine draw_takeS 17 (v := ?_) rfl (by kernel_rfl) (by kernel_rfl) (by kernel_rfl) (fun _ _ _ h => h) (by rfl) hSS ?_ ?_
        rotate_left
        · intro w hS; have c0 := hS.cell a0 (by simp); have c1 := hS.cell a1 (by simp); go_simp; try with_reducible rfl
        try simp only [Act.put, List.setIfInBounds_toArray, List.set_cons_zero, List.set_cons_succ]
        refine draw_takeS 18 (v := ?_) rfl (by kernel_rfl) (by kernel_rfl) (by kernel_rfl) (fun _ _ _ h => h) (by rfl) hSS ?_ ?_
        rotate_left
        · intro w hS; have c0 := hS.cell a0 (by simp); have c1 := hS.cell a1 (by simp); go_simp; try with_reducible rfl
        try simp only [Act.put, List.setIfInBounds_toArray, List.set_cons_zero, List.set_cons_succ]
        refine draw_takeS 20 (v := ?_) rfl (by kernel_rfl) (by kernel_rfl) (by kernel_rfl) (fun _ _ _ h => h) (by rfl) hSS ?_ ?_
        rotate_left
        · intro w hS; have c0 := hS.cell a0 (by simp); have c1 := hS.cell a1 (by simp); go_simp; try with_reducible rfl
        try simp only [Act.put, List.setIfInBounds_toArray, List.set_cons_zero, List.set_cons_succ]
        refine draw_takeS 21 (v := ?_) rfl (by kernel_rfl) (by kernel_rfl) (by kernel_rfl) (fun _ _ _ h => h) (by rfl) hSS ?_ ?_
        rotate_left
        · intro w hS; have c0 := hS.cell a0 (by simp); have c1 := hS.cell a1 (by simp); go_simp; try with_reducible rfl
        try simp only [Act.put, List.setIfInBounds_toArray, List.set_cons_zero, List.set_cons_succ]
        refine draw_takeS 22 (v := ?_) rfl (by kernel_rfl) (by kernel_rfl) (by kernel_rfl) (fun _ _ _ h => h) (by rfl) hSS ?_ ?_
        rotate_left
        · intro w hS; have c0 := hS.cell a0 (by simp); have c1 := hS.cell a1 (by simp); go_simp; try with_reducible rfl
        try simp only [Act.put, List.setIfInBounds_toArray, List.set_cons_zero, List.set_cons_succ]
        refine draw_takeS 23 (v := ?_) rfl (by kernel_rfl) (by kernel_rfl) (by kernel_rfl) (fun _ _ _ h => h) (by rfl) hSS ?_ ?_
        rotate_left
        · intro w hS; have c0 := hS.cell a0 (by simp); have c1 := hS.cell a1 (by simp); go_simp; try with_reducible rfl
        try simp only [Act.put, List.setIfInBounds_toArray, List.set_cons_zero, List.set_cons_succ]
        refine draw_takeS 24 (v := ?_) rfl (by kernel_rfl) (by kernel_rfl) (by kernel_rfl) (fun _ _ _ h => h) (by rfl) hSS ?_ ?_
        rotate_left
        · intro w hS; have c0 := hS.cell a0 (by simp); have c1 := hS.cell a1 (by simp); go_simp; try with_reducible rfl
        try simp only [Act.put, List.setIfInBounds_toArray, List.set_cons_zero, List.set_cons_succ]
        refine draw_oneS 6 rfl (by kernel_rfl) (by rfl) (fun K hK => ?_)
        go_simp
        refine (HGK.out _ hSS).mono ?_
        rintro e wa ⟨rfl, hg2⟩
        have hSS2 := hSS.trans hg2
        clear hSS hg2
        have hSS := hSS2
        clear hSS2
        refine hK.out _ _ hSS ?_
        clear hK K
        try simp only [Act.put, List.setIfInBounds_toArray, List.set_cons_zero, List.set_cons_succ]
        refine draw_takeS 12 (v := ?_) rfl (by kernel_rfl) (by kernel_rfl) (by kernel_rfl) (fun _ _ _ h => h) (by rfl) hSS ?_ ?_
        rotate_left
        · intro w hS; go_simp; try with_reducible rfl
        try simp only [Act.put, List.setIfInBounds_toArray, List.set_cons_zero, List.set_cons_succ]
        refine draw_oneS 19 rfl (by kernel_rfl) (by rfl) (fun K hK => ?_)
        go_simp
        refine (HGO.out _ hSS).mono ?_
        rintro e wb ⟨rfl, hg2⟩
        have hSS2 := hSS.trans hg2
        clear hSS hg2
        have hSS := hSS2
        clear hSS2
        refine hK.out _ _ hSS ?_
        clear hK K
        try simp only [Act.put, List.setIfInBounds_toArray, List.set_cons_zero, List.set_cons_succ]
        refine draw_takeS 25 (v := ?_) rfl (by kernel_rfl) (by kernel_rfl) (by kernel_rfl) (fun _ _ _ h => h) (by rfl) hSS ?_ ?_
        rotate_left
        · intro w hS; go_simp; try with_reducible rfl
        try simp only [Act.put, List.setIfInBounds_toArray, List.set_cons_zero, List.set_cons_succ]
        refine draw_takeS 26 (v := ?_) rfl (by kernel_rfl) (by kernel_rfl) (by kernel_rfl) (fun _ _ _ h => h) (by rfl) hSS ?_ ?_
        rotate_left
        · intro w hS; go_simp; try with_reducible rfl
        try simp only [Act.put, List.setIfInBounds_toArray, List.set_cons_zero, List.set_cons_succ]
        refine wpAnyH_done (by kernel_rfl) ?_ _
        go_wp2
        go_roundw
        case rel => exact ⟨k + 1, by omega, by go_num, HG.out.trans hSS⟩
        case measure => simp [intOf]; omega
    · have hki : ¬ (k : Int) < (L : Int) := by omega
      have HE : Hid (W.grownBy wr none) := HU4.out.trans HG.out
      have hs : ((nk : Int) + (no : Int) == (L : Int)) = true := by simp; omega
      clear HGetK HGetO HG HU4
      go_wp2_with fail
      refine (HCp.out wr HE.out).mono ?_
      rintro e x1 ⟨g1, c1, rfl, ho1, hg1⟩
      have HO1 : Hid (LOwn x1 wr.heap.size g1 L c1 z0) := ho1
      have HE1 : Hid (W.grownBy x1 none) := HE.out.trans hg1
      clear ho1 hg1 HE
      go_wp2_with fail
      refine (HNone.out g1 c1 x1 HO1.out.rd).mono ?_
      rintro e x2 ⟨v2, n2, rfl, ho2, hg2⟩
      obtain ⟨b2, c2, rfl, -, -, -, -⟩ := sown_form ho2
      have HO2 : Hid (SOwn labE 52 x2 x1.heap.size (.slice b2 n2 c2) n2 Rst) := ho2
      have HE2 : Hid (W.grownBy x2 none) := HE1.out.trans hg2
      have hn2 : n2 ≤ 16 := by have h := SOwn.len ho2; have h2 := HRl.out; omega
      clear ho2 hg2 HE1 HO1
      go_wp2_with fail
      refine (HCp.out x2 HE2.out).mono ?_
      rintro e x3 ⟨g3, c3, rfl, ho3, hg3⟩
      have HO3 : Hid (LOwn x3 x2.heap.size g3 L c3 z0) := ho3
      have HO23 : Hid (SOwn labE 52 x3 x1.heap.size (.slice b2 n2 c2) n2 Rst) := SOwn.kept HO2.out hg3 (Classical.em _)
      have HE3 : Hid (W.grownBy x3 none) := HE2.out.trans hg3
      clear ho3 hg3 HE2 HO2
      go_wp2_with fail
      refine (HRest.out g3 c3 x3 HO3.out.rd).mono ?_
      rintro e x4 ⟨v4, n4, rfl, ho4, hg4⟩
      obtain ⟨b4, c4, rfl, -, -, -, -⟩ := sown_form ho4
      have HO4 : Hid (SOwn labE 52 x4 x3.heap.size (.slice b4 n4 c4) n4 Rst) := ho4
      have HO24 : Hid (SOwn labE 52 x4 x1.heap.size (.slice b2 n2 c2) n2 Rst) := SOwn.kept HO23.out hg4 (Classical.em _)
      have HE4 : Hid (W.grownBy x4 none) := HE3.out.trans hg4
      clear ho4 hg4 HE3 HO23 HO3
      go_wp2_with fail
      refine (lsame b2 b4 Rst Rst n2 n4 c2 c4 x4 (SOwn.rd HO24.out) (SOwn.rd HO4.out) (SOwn.len HO24.out) (SOwn.len HO4.out) (by omega)).mono ?_
      rintro e x5 ⟨rfl, hg5⟩
      rw [show decide (Rst = Rst) = true by simp]
      have HE5 : Hid (W.grownBy x5 none) := HE4.out.trans hg5
      clear hg5 HO4 HO24 HE4
      go_wp2_with fail
      refine (awake_lab x5).mono ?_
      rintro e x6 ⟨rfl, hg6⟩
      have HE6 : Hid (W.grownBy x6 none) := HE5.out.trans hg6
      clear hg6
      go_wp2
      go_ret
      exact ⟨rfl, gb_below HE6.out⟩

set_option maxHeartbeats 8000000 in
theorem labelWiths_good (a0 : Option Addr) (z0 : List Lab) (cap0 : Nat) (name value : ByteArray) (a1 : Option Addr) (z1 : List ByteArray) (cap1 : Nat) (W : World)
    (r0 : SRd labE W a0 z0) (n0 : a0 = none → cap0 = 0) (r1 : SRd strE W a1 z1) (n1 : a1 = none → cap1 = 0) (l1 : z1.length ≤ 8796093021952) (hC : checkR z0 = 0) (hone : checkR [(name, value)] = 0) (hX : (withR z0 name value).length ≤ 16) :
    Calls Try.prog 8 #[.slice a0 z0.length cap0, .string name, .string value, .slice a1 z1.length cap1] W fun e w' => e = .returned (.bool true) ∧ Below W.heap.size W w' := by
  have l0 : z0.length ≤ 16 := ((check_iff z0).1 hC).1
  obtain ⟨X, eX⟩ : ∃ X, withR z0 name value = X := ⟨_, rfl⟩
  obtain ⟨K, eK⟩ : ∃ K, someR z0 z1 true = K := ⟨_, rfl⟩
  obtain ⟨O, eO⟩ : ∃ O, someR z0 z1 false = O := ⟨_, rfl⟩
  obtain ⟨Rst, eR⟩ : ∃ O, someR z0 [name] false = O := ⟨_, rfl⟩
  obtain ⟨C1, eC1⟩ : ∃ C, checkR [(name, value)] = C := ⟨_, rfl⟩
  have HXl : Hid (X.length ≤ 17) := by show _ ≤ _; have := withR_len z0 name value; rw [eX] at this; omega
  have HKl : Hid (K.length ≤ 16) := by show _ ≤ _; have := someR_len z0 z1 true; rw [eK] at this; omega
  have HOl : Hid (O.length ≤ 16) := by show _ ≤ _; have := someR_len z0 z1 false; rw [eO] at this; omega
  have HRl : Hid (Rst.length ≤ 16) := by show _ ≤ _; have := someR_len z0 [name] false; rw [eR] at this; omega
  have HSum : Hid (K.length + O.length = z0.length) := by show _ = _; rw [← eK, ← eO]; exact parts_len z0 z1
  have HCp : Hid (∀ w, W.grownBy w none → Calls Try.prog 38 #[.slice a0 z0.length cap0] w fun e w' => ∃ g c, e = .returned (.slice (some ⟨g, 0, none⟩) z0.length c) ∧ LOwn w' w.heap.size g z0.length c z0 ∧ w.grownBy w' none) := fun w hg => lcopy a0 z0 _ cap0 w (r0.grown hg (by simp)) rfl n0 (by omega)
  have HCk : Hid (∀ (g c : Nat) (w : World), SRd labE w (some ⟨g, 0, none⟩) z0 → Calls Try.prog 10 #[.slice (some ⟨g, 0, none⟩) z0.length c] w fun e w' => e = .returned (.int .i64 0) ∧ w.grownBy w' none) := fun g c w h => f_check _ z0 _ c 0 w h rfl (by omega) hC
  have HOne : Hid (∀ w : World, Calls Try.prog 10 #[.slice (some ⟨w.heap.size, 0, none⟩) 1 1] (w.alloc (.cells #[.string name, .string value] 52)) fun e w' => e = .returned (.int .i64 C1) ∧ w.grownBy w' none) := fun w => (f_check _ [(name, value)] 1 1 C1 _ (llit w [(name, value)]) rfl (by omega) eC1).mono (by rintro e w' ⟨rfl, hg⟩; exact ⟨rfl, (World.grownBy_alloc w _ none).trans hg⟩)
  have HWith : Hid (∀ (g c : Nat) (w : World), SRd labE w (some ⟨g, 0, none⟩) z0 → Calls Try.prog 30 #[.slice (some ⟨g, 0, none⟩) z0.length c, .string name, .string value] w fun e w' => ∃ v n, e = .returned v ∧ SOwn labE 52 w' w.heap.size v n X ∧ w.grownBy w' none) := fun g c w h => f_with _ z0 _ c name value X w h rfl (by omega) eX
  have HNone : Hid (∀ (g c : Nat) (w : World), SRd labE w (some ⟨g, 0, none⟩) z0 → Calls Try.prog 30 #[.slice (some ⟨g, 0, none⟩) z0.length c, .string name, .string ⟨#[]⟩] w fun e w' => ∃ v n, e = .returned v ∧ SOwn labE 52 w' w.heap.size v n Rst ∧ w.grownBy w' none) := fun g c w h => f_with _ z0 _ c name ⟨#[]⟩ Rst w h rfl (by omega) (by rw [with_none, eR])
  have HKeep : Hid (∀ (g c : Nat) (w : World), W.grownBy w none → SRd labE w (some ⟨g, 0, none⟩) z0 → Calls Try.prog 31 #[.slice (some ⟨g, 0, none⟩) z0.length c, .slice a1 z1.length cap1] w fun e w' => ∃ v n, e = .returned v ∧ SOwn labE 52 w' w.heap.size v n K ∧ w.grownBy w' none) := fun g c w hg hh => f_keep _ _ z0 z1 _ _ c cap1 K w hh (r1.grown hg (by simp)) rfl rfl (by omega) (by omega) eK
  have HWout : Hid (∀ (g c : Nat) (w : World), W.grownBy w none → SRd labE w (some ⟨g, 0, none⟩) z0 → Calls Try.prog 32 #[.slice (some ⟨g, 0, none⟩) z0.length c, .slice a1 z1.length cap1] w fun e w' => ∃ v n, e = .returned v ∧ SOwn labE 52 w' w.heap.size v n O ∧ w.grownBy w' none) := fun g c w hg hh => f_without _ _ z0 z1 _ _ c cap1 O w hh (r1.grown hg (by simp)) rfl rfl (by omega) (by omega) eO
  have HRest : Hid (∀ (g c : Nat) (w : World), SRd labE w (some ⟨g, 0, none⟩) z0 → Calls Try.prog 32 #[.slice (some ⟨g, 0, none⟩) z0.length c, .slice (some ⟨w.heap.size, 0, none⟩) 1 1] (w.alloc (.cells #[.string name] 9)) fun e w' => ∃ v n, e = .returned v ∧ SOwn labE 52 w' w.heap.size v n Rst ∧ w.grownBy w' none) := fun g c w hh => (f_without _ _ z0 [name] _ 1 c 1 Rst _ (hh.grown (World.grownBy_alloc w (.cells #[.string name] 9) none) (by simp)) (tlit w [name]) rfl rfl (by omega) (by omega) eR).mono (by
    rintro e w' ⟨v, n, rfl, ho, hg⟩
    exact ⟨v, n, rfl, ho.base (World.grownBy_alloc w _ none).size, (World.grownBy_alloc w _ none).trans hg⟩)
  have HAt : Hid (∀ k, k < z0.length → ∃ b off, a0 = some ⟨b, off, none⟩ ∧ ∃ s1 s2, W.cell? ⟨b, off + k * 2, none⟩ = some (.string s1) ∧ W.cell? ⟨b, off + k * 2 + 1, none⟩ = some (.string s2) ∧ (((getR K s1).toList == s2.toList) == ((getR O s1).toList == s2.toList)) = false) := by
    intro k hk
    obtain ⟨b, off, rfl, hc⟩ := r0.at (by omega)
    obtain ⟨⟨s1, s2⟩, ex⟩ : ∃ x, z0[k]? = some x := ⟨_, List.getElem?_eq_getElem (by omega)⟩
    have h := parts_get hC z1 ex
    rw [eK, eO] at h
    exact ⟨b, off, rfl, s1, s2, hc k _ 0 _ ex rfl, by rw [Nat.add_assoc]; exact hc k _ 1 _ ex rfl, h⟩
  have h1 : (C1 == 0) = true := by rw [← eC1]; simpa using hone
  obtain ⟨hg1, hg2, hg3⟩ := with_good hC hone
  have HX1 : Hid (checkR X = 0) := by show _ = _; rw [← eX]; exact hg1 hX
  have HX2 : Hid (getR X name = value) := by show _ = _; rw [← eX]; exact hg2
  have HX3 : Hid (someR X [name] false = Rst) := by show _ = _; rw [← eX, ← eR]; exact hg3
  rw [eX] at hX
  clear hone hg1 hg2 hg3
  obtain ⟨L, eL⟩ : ∃ L, L = z0.length := ⟨_, rfl⟩
  obtain ⟨M, eM⟩ : ∃ M, M = z1.length := ⟨_, rfl⟩
  rw [← eL] at HCp HCk HWith HNone HKeep HWout HRest HAt HSum l0 ⊢
  rw [← eM] at HKeep HWout l1 ⊢
  clear r0 r1 n0 n1 eL eM eX eK eO eR eC1 hC
  go_enter Try.func8, Try.ntmps8
  go_wp2_with fail
  refine (HCp.out W (World.grownBy.refl _ _)).mono ?_
  rintro e w1 ⟨g1, c1, rfl, ho1, hg1⟩
  have HO1 : Hid (LOwn w1 W.heap.size g1 L c1 z0) := ho1
  have HG1 : Hid (W.grownBy w1 none) := hg1
  clear ho1 hg1
  go_wp2_with fail
  refine (HCk.out g1 c1 w1 HO1.out.rd).mono ?_
  rintro e w2 ⟨rfl, hg2⟩
  have HG2 : Hid (W.grownBy w2 none) := HG1.out.trans hg2
  clear hg2 HO1 HG1 HCk
  go_wp2_with fail
  refine (HOne.out w2).mono ?_
  rintro e w3 ⟨rfl, hg3⟩
  have HG3 : Hid (W.grownBy w3 none) := HG2.out.trans hg3
  clear hg3 HG2 HOne
  go_wp2_with fail
  refine (HCp.out w3 HG3.out).mono ?_
  rintro e w4 ⟨g4, c4, rfl, ho4, hg4⟩
  have HO4 : Hid (LOwn w4 w3.heap.size g4 L c4 z0) := ho4
  have HG4 : Hid (W.grownBy w4 none) := HG3.out.trans hg4
  clear ho4 hg4 HG3
  go_wp2_with fail
  refine (HWith.out g4 c4 w4 HO4.out.rd).mono ?_
  rintro e w5 ⟨v5, n5, rfl, ho5, hg5⟩
  obtain ⟨b5, c5, rfl, -, -, -, -⟩ := sown_form ho5
  have HO5 : Hid (SOwn labE 52 w5 w4.heap.size (.slice b5 n5 c5) n5 X) := ho5
  have hn5 : X.length = n5 := SOwn.len ho5
  have hn5b : n5 ≤ 17 := by have := HXl.out; omega
  have HG5 : Hid (W.grownBy w5 none) := HG4.out.trans hg5
  clear ho5 hg5 HG4 HO4 HWith
  have h2 : decide ((n5 : Int) ≤ 16) = true := by simp; omega
  have h3 : (value.toList != value.toList) = false := by simp
  clear HXl
  go_wp2_with fail
  refine (f_check b5 X n5 c5 0 w5 (SOwn.rd HO5.out) hn5 (by omega) HX1.out).mono ?_
  rintro e w6 ⟨rfl, hg6⟩
  have HG56 : Hid (w5.grownBy w6 none) := hg6
  clear hg6
  go_wp2_with fail
  refine (f_get b5 X n5 c5 name value w6 (SRd.grown (SOwn.rd HO5.out) HG56.out (by simp)) hn5 (by omega) HX2.out).mono ?_
  rintro e w7 ⟨rfl, hg7⟩
  have HG57 : Hid (w5.grownBy w7 none) := HG56.out.trans hg7
  clear hg7 HG56
  go_wp2_with fail
  have HB8 : Hid (w7.grownBy (w7.alloc (.cells #[.string name] 9)) none) := World.grownBy_alloc w7 _ none
  have HT8 : Hid (SRd strE (w7.alloc (.cells #[.string name] 9)) (some ⟨w7.heap.size, 0, none⟩) [name]) := tlit w7 [name]
  refine (f_without b5 (some ⟨w7.heap.size, 0, none⟩) X [name] n5 1 c5 1 Rst _ (SRd.grown (SOwn.rd HO5.out) (HG57.out.trans HB8.out) (by simp)) HT8.out hn5 rfl (by omega) (by omega) HX3.out).mono ?_
  rintro e w8 ⟨v8, n8, rfl, ho8, hg8⟩
  obtain ⟨b8, c8, rfl, -, -, -, -⟩ := sown_form ho8
  have HO8 : Hid (SRd labE w8 b8 Rst) := SOwn.rd ho8
  have hn8 : Rst.length = n8 := SOwn.len ho8
  have hn8b : n8 ≤ 16 := by have := HRl.out; omega
  have HG8 : Hid (W.grownBy w8 none) := ((HG5.out.trans HG57.out).trans HB8.out).trans hg8
  clear ho8 hg8 HB8 HT8 HG57 HO5 HG5 hn5
  go_wp2_with fail
  refine (HCp.out w8 HG8.out).mono ?_
  rintro e w9 ⟨g9, c9, rfl, ho9, hg9⟩
  have HO9 : Hid (LOwn w9 w8.heap.size g9 L c9 z0) := ho9
  have HG89 : Hid (w8.grownBy w9 none) := hg9
  clear ho9 hg9
  go_wp2_with fail
  refine (HRest.out g9 c9 w9 HO9.out.rd).mono ?_
  rintro e w10 ⟨v10, n10, rfl, ho10, hg10⟩
  obtain ⟨b10, c10, rfl, -, -, -, -⟩ := sown_form ho10
  have HO10 : Hid (SRd labE w10 b10 Rst) := SOwn.rd ho10
  have hn10 : Rst.length = n10 := SOwn.len ho10
  have HG810 : Hid (w8.grownBy w10 none) := HG89.out.trans hg10
  clear ho10 hg10 HO9 HG89
  go_wp2_with fail
  refine (lsame b8 b10 Rst Rst n8 n10 c8 c10 w10 (HO8.out.grown HG810.out (by simp)) HO10.out hn8 hn10 (by omega)).mono ?_
  rintro e w11 ⟨rfl, hg11⟩
  rw [show decide (Rst = Rst) = true by simp]
  have HG11 : Hid (W.grownBy w11 none) := (HG8.out.trans HG810.out).trans hg11
  clear hg11 HO10 HO8 HG8 HG810 hn8 hn10
  obtain ⟨wT, eT⟩ : ∃ x, x = w11 := ⟨_, rfl⟩
  rw [← eT] at HG11 ⊢
  have HGT : Hid (W.grownBy wT none) := HG11.out
  clear eT HG11
  go_wp2_with fail
  refine (HCp.out wT HGT.out).mono ?_
  rintro e u1 ⟨g1, c1, rfl, ho1, hg1⟩
  have HO1 : Hid (LOwn u1 wT.heap.size g1 L c1 z0) := ho1
  have HU1 : Hid (W.grownBy u1 none) := HGT.out.trans hg1
  clear ho1 hg1 HGT
  go_wp2_with fail
  refine (HKeep.out g1 c1 u1 HU1.out HO1.out.rd).mono ?_
  rintro e u2 ⟨v2, nk, rfl, ho2, hg2⟩
  obtain ⟨bk, ck, rfl, -, -, -, -⟩ := sown_form ho2
  have HOK : Hid (SOwn labE 52 u2 u1.heap.size (.slice bk nk ck) nk K) := ho2
  have HU2 : Hid (W.grownBy u2 none) := HU1.out.trans hg2
  clear ho2 hg2 HU1 HO1
  go_wp2_with fail
  refine (HCp.out u2 HU2.out).mono ?_
  rintro e u3 ⟨g3, c3, rfl, ho3, hg3⟩
  have HO3 : Hid (LOwn u3 u2.heap.size g3 L c3 z0) := ho3
  have HU3 : Hid (W.grownBy u3 none) := HU2.out.trans hg3
  have HU23 : Hid (u2.grownBy u3 none) := hg3
  clear ho3 hg3 HU2
  go_wp2_with fail
  refine (HWout.out g3 c3 u3 HU3.out HO3.out.rd).mono ?_
  rintro e u4 ⟨v4, no, rfl, ho4, hg4⟩
  obtain ⟨bo, co, rfl, -, -, -, -⟩ := sown_form ho4
  have HOO : Hid (SOwn labE 52 u4 u3.heap.size (.slice bo no co) no O) := ho4
  have HU4 : Hid (W.grownBy u4 none) := HU3.out.trans hg4
  have HOK4 : Hid (SOwn labE 52 u4 u1.heap.size (.slice bk nk ck) nk K) := SOwn.kept HOK.out (HU23.out.trans hg4) (Classical.em _)
  have hnk : nk ≤ 16 := by have h := SOwn.len HOK.out; have h2 := HKl.out; omega
  have hno : no ≤ 16 := by have h := SOwn.len ho4; have h2 := HOl.out; omega
  have HGetK : Hid (∀ (s R : ByteArray) (w : World), getR K s = R → u4.grownBy w none → Calls Try.prog 29 #[.slice bk nk ck, .string s] w fun e w' => e = .returned (.string R) ∧ w.grownBy w' none) := fun s R w hR hg => f_get bk K nk ck s R w (SRd.grown (SOwn.rd HOK4.out) hg (by simp)) (SOwn.len HOK4.out) (by omega) hR
  have HGetO : Hid (∀ (s R : ByteArray) (w : World), getR O s = R → u4.grownBy w none → Calls Try.prog 29 #[.slice bo no co, .string s] w fun e w' => e = .returned (.string R) ∧ w.grownBy w' none) := fun s R w hR hg => f_get bo O no co s R w (SRd.grown (SOwn.rd HOO.out) hg (by simp)) (SOwn.len HOO.out) (by omega) hR
  have hsum : nk + no = L := by have h1 := SOwn.len HOK.out; have h2 := SOwn.len ho4; have h3 := HSum.out; omega
  clear ho4 hg4 HU3 HOK HO3 HU23 HOK4 HOO
  go_wp2
  go_loopw [13] (fun i wr => ∃ k : Nat, k ≤ L ∧ i = .int .i64 k ∧ u4.grownBy wr none) (fun i _ => L - (intOf i).toNat)
  case atStart => exact ⟨0, Nat.zero_le _, rfl, World.grownBy.refl _ _⟩
  case round =>
    obtain ⟨k, hk, rfl, hg⟩ := hrel
    have HG : Hid (u4.grownBy wr none) := hg
    clear hg
    by_cases hlt : k < L
    · obtain ⟨b, off, rfl, s1, s2, hc0, hc1, hpg⟩ := HAt.out k hlt
      have a0 : wr.cell? ⟨b, off + k * 2, none⟩ = some (.string s1) := (HU4.out.trans HG.out).cell hc0 (by simp)
      have a1 : wr.cell? ⟨b, off + k * 2 + 1, none⟩ = some (.string s2) := (HU4.out.trans HG.out).cell hc1 (by simp)
      obtain ⟨GK, eGK⟩ : ∃ G, getR K s1 = G := ⟨_, rfl⟩
      obtain ⟨GO, eGO⟩ : ∃ G, getR O s1 = G := ⟨_, rfl⟩
      have HGK : Hid (∀ w, wr.grownBy w none → Calls Try.prog 29 #[.slice bk nk ck, .string s1] w fun e w' => e = .returned (.string GK) ∧ w.grownBy w' none) := fun w hg => HGetK.out s1 GK w eGK (HG.out.trans hg)
      have HGO : Hid (∀ w, wr.grownBy w none → Calls Try.prog 29 #[.slice bo no co, .string s1] w fun e w' => e = .returned (.string GO) ∧ w.grownBy w' none) := fun w hg => HGetO.out s1 GO w eGO (HG.out.trans hg)
      rw [eGK, eGO] at hpg
      have hki : (k : Int) < (L : Int) := by omega
      clear hc0 hc1 eGK eGO HGetK HGetO
      cases hx : (GK.toList == s2.toList) with
      | true =>
        have hy : (GO.toList == s2.toList) = false := by cases h : (GO.toList == s2.toList) with
          | false => rfl
          | true => rw [hx, h] at hpg; simp at hpg
        clear hpg
        go_wp2
        refine wp_region_held_drew (S := fun w' => wr.grownBy w' none) (by kernel_rfl) (gb_drew (World.grownBy.refl wr none)) (fun hSS => ?_)
        refine draw_takeS 0 (v := ?_) rfl (by kernel_rfl) (by kernel_rfl) (by kernel_rfl) (fun _ _ _ h => h) (by rfl) hSS ?_ ?_
        rotate_left
        · intro w hS; have c0 := hS.cell a0 (by simp); have c1 := hS.cell a1 (by simp); go_simp; try with_reducible rfl
        try simp only [Act.put, List.setIfInBounds_toArray, List.set_cons_zero, List.set_cons_succ]
        refine draw_takeS 1 (v := ?_) rfl (by kernel_rfl) (by kernel_rfl) (by kernel_rfl) (fun _ _ _ h => h) (by rfl) hSS ?_ ?_
        rotate_left
        · intro w hS; have c0 := hS.cell a0 (by simp); have c1 := hS.cell a1 (by simp); go_simp; try with_reducible rfl
        try simp only [Act.put, List.setIfInBounds_toArray, List.set_cons_zero, List.set_cons_succ]
        refine draw_takeS 2 (v := ?_) rfl (by kernel_rfl) (by kernel_rfl) (by kernel_rfl) (fun _ _ _ h => h) (by rfl) hSS ?_ ?_
        rotate_left
        · intro w hS; have c0 := hS.cell a0 (by simp); have c1 := hS.cell a1 (by simp); go_simp; try with_reducible rfl
        try simp only [Act.put, List.setIfInBounds_toArray, List.set_cons_zero, List.set_cons_succ]
        refine draw_takeS 3 (v := ?_) rfl (by kernel_rfl) (by kernel_rfl) (by kernel_rfl) (fun _ _ _ h => h) (by rfl) hSS ?_ ?_
        rotate_left
        · intro w hS; have c0 := hS.cell a0 (by simp); have c1 := hS.cell a1 (by simp); go_simp; try with_reducible rfl
        try simp only [Act.put, List.setIfInBounds_toArray, List.set_cons_zero, List.set_cons_succ]
        refine draw_takeS 4 (v := ?_) rfl (by kernel_rfl) (by kernel_rfl) (by kernel_rfl) (fun _ _ _ h => h) (by rfl) hSS ?_ ?_
        rotate_left
        · intro w hS; have c0 := hS.cell a0 (by simp); have c1 := hS.cell a1 (by simp); go_simp; try with_reducible rfl
        try simp only [Act.put, List.setIfInBounds_toArray, List.set_cons_zero, List.set_cons_succ]
        refine draw_takeS 5 (v := ?_) rfl (by kernel_rfl) (by kernel_rfl) (by kernel_rfl) (fun _ _ _ h => h) (by rfl) hSS ?_ ?_
        rotate_left
        · intro w hS; have c0 := hS.cell a0 (by simp); have c1 := hS.cell a1 (by simp); go_simp; try with_reducible rfl
        try simp only [Act.put, List.setIfInBounds_toArray, List.set_cons_zero, List.set_cons_succ]
        refine draw_takeS 7 (v := ?_) rfl (by kernel_rfl) (by kernel_rfl) (by kernel_rfl) (fun _ _ _ h => h) (by rfl) hSS ?_ ?_
        rotate_left
        · intro w hS; have c0 := hS.cell a0 (by simp); have c1 := hS.cell a1 (by simp); go_simp; try with_reducible rfl
        try simp only [Act.put, List.setIfInBounds_toArray, List.set_cons_zero, List.set_cons_succ]
        refine draw_takeS 8 (v := ?_) rfl (by kernel_rfl) (by kernel_rfl) (by kernel_rfl) (fun _ _ _ h => h) (by rfl) hSS ?_ ?_
        rotate_left
        · intro w hS; have c0 := hS.cell a0 (by simp); have c1 := hS.cell a1 (by simp); go_simp; try with_reducible rfl
        try simp only [Act.put, List.setIfInBounds_toArray, List.set_cons_zero, List.set_cons_succ]
        refine draw_takeS 9 (v := ?_) rfl (by kernel_rfl) (by kernel_rfl) (by kernel_rfl) (fun _ _ _ h => h) (by rfl) hSS ?_ ?_
        rotate_left
        · intro w hS; have c0 := hS.cell a0 (by simp); have c1 := hS.cell a1 (by simp); go_simp; try with_reducible rfl
        try simp only [Act.put, List.setIfInBounds_toArray, List.set_cons_zero, List.set_cons_succ]
        refine draw_takeS 10 (v := ?_) rfl (by kernel_rfl) (by kernel_rfl) (by kernel_rfl) (fun _ _ _ h => h) (by rfl) hSS ?_ ?_
        rotate_left
        · intro w hS; have c0 := hS.cell a0 (by simp); have c1 := hS.cell a1 (by simp); go_simp; try with_reducible rfl
        try simp only [Act.put, List.setIfInBounds_toArray, List.set_cons_zero, List.set_cons_succ]
        refine draw_takeS 11 (v := ?_) rfl (by kernel_rfl) (by kernel_rfl) (by kernel_rfl) (fun _ _ _ h => h) (by rfl) hSS ?_ ?_
        rotate_left
        · intro w hS; have c0 := hS.cell a0 (by simp); have c1 := hS.cell a1 (by simp); go_simp; try with_reducible rfl
        try simp only [Act.put, List.setIfInBounds_toArray, List.set_cons_zero, List.set_cons_succ]
        refine draw_takeS 13 (v := ?_) rfl (by kernel_rfl) (by kernel_rfl) (by kernel_rfl) (fun _ _ _ h => h) (by rfl) hSS ?_ ?_
        rotate_left
        · intro w hS; have c0 := hS.cell a0 (by simp); have c1 := hS.cell a1 (by simp); go_simp; try with_reducible rfl
        try simp only [Act.put, List.setIfInBounds_toArray, List.set_cons_zero, List.set_cons_succ]
        refine draw_takeS 14 (v := ?_) rfl (by kernel_rfl) (by kernel_rfl) (by kernel_rfl) (fun _ _ _ h => h) (by rfl) hSS ?_ ?_
        rotate_left
        · intro w hS; have c0 := hS.cell a0 (by simp); have c1 := hS.cell a1 (by simp); go_simp; try with_reducible rfl
        try simp only [Act.put, List.setIfInBounds_toArray, List.set_cons_zero, List.set_cons_succ]
        refine draw_takeS 15 (v := ?_) rfl (by kernel_rfl) (by kernel_rfl) (by kernel_rfl) (fun _ _ _ h => h) (by rfl) hSS ?_ ?_
        rotate_left
        · intro w hS; have c0 := hS.cell a0 (by simp); have c1 := hS.cell a1 (by simp); go_simp; try with_reducible rfl
        try simp only [Act.put, List.setIfInBounds_toArray, List.set_cons_zero, List.set_cons_succ]
        refine draw_takeS 16 (v := ?_) rfl (by kernel_rfl) (by kernel_rfl) (by kernel_rfl) (fun _ _ _ h => h) (by rfl) hSS ?_ ?_
        rotate_left
        · intro w hS; have c0 := hS.cell a0 (by simp); have c1 := hS.cell a1 (by simp); go_simp; try with_reducible rfl
        try simp only [Act.put, List.setIfInBounds_toArray, List.set_cons_zero, List.set_cons_succ]
        refine draw_takeS 17 (v := ?_) rfl (by kernel_rfl) (by kernel_rfl) (by kernel_rfl) (fun _ _ _ h => h) (by rfl) hSS ?_ ?_
        rotate_left
        · intro w hS; have c0 := hS.cell a0 (by simp); have c1 := hS.cell a1 (by simp); go_simp; try with_reducible rfl
        try simp only [Act.put, List.setIfInBounds_toArray, List.set_cons_zero, List.set_cons_succ]
        refine draw_takeS 18 (v := ?_) rfl (by kernel_rfl) (by kernel_rfl) (by kernel_rfl) (fun _ _ _ h => h) (by rfl) hSS ?_ ?_
        rotate_left
        · intro w hS; have c0 := hS.cell a0 (by simp); have c1 := hS.cell a1 (by simp); go_simp; try with_reducible rfl
        try simp only [Act.put, List.setIfInBounds_toArray, List.set_cons_zero, List.set_cons_succ]
        refine draw_takeS 20 (v := ?_) rfl (by kernel_rfl) (by kernel_rfl) (by kernel_rfl) (fun _ _ _ h => h) (by rfl) hSS ?_ ?_
        rotate_left
        · intro w hS; have c0 := hS.cell a0 (by simp); have c1 := hS.cell a1 (by simp); go_simp; try with_reducible rfl
        try simp only [Act.put, List.setIfInBounds_toArray, List.set_cons_zero, List.set_cons_succ]
        refine draw_takeS 21 (v := ?_) rfl (by kernel_rfl) (by kernel_rfl) (by kernel_rfl) (fun _ _ _ h => h) (by rfl) hSS ?_ ?_
        rotate_left
        · intro w hS; have c0 := hS.cell a0 (by simp); have c1 := hS.cell a1 (by simp); go_simp; try with_reducible rfl
        try simp only [Act.put, List.setIfInBounds_toArray, List.set_cons_zero, List.set_cons_succ]
        refine draw_takeS 22 (v := ?_) rfl (by kernel_rfl) (by kernel_rfl) (by kernel_rfl) (fun _ _ _ h => h) (by rfl) hSS ?_ ?_
        rotate_left
        · intro w hS; have c0 := hS.cell a0 (by simp); have c1 := hS.cell a1 (by simp); go_simp; try with_reducible rfl
        try simp only [Act.put, List.setIfInBounds_toArray, List.set_cons_zero, List.set_cons_succ]
        refine draw_takeS 23 (v := ?_) rfl (by kernel_rfl) (by kernel_rfl) (by kernel_rfl) (fun _ _ _ h => h) (by rfl) hSS ?_ ?_
        rotate_left
        · intro w hS; have c0 := hS.cell a0 (by simp); have c1 := hS.cell a1 (by simp); go_simp; try with_reducible rfl
        try simp only [Act.put, List.setIfInBounds_toArray, List.set_cons_zero, List.set_cons_succ]
        refine draw_takeS 24 (v := ?_) rfl (by kernel_rfl) (by kernel_rfl) (by kernel_rfl) (fun _ _ _ h => h) (by rfl) hSS ?_ ?_
        rotate_left
        · intro w hS; have c0 := hS.cell a0 (by simp); have c1 := hS.cell a1 (by simp); go_simp; try with_reducible rfl
        try simp only [Act.put, List.setIfInBounds_toArray, List.set_cons_zero, List.set_cons_succ]
        refine draw_oneS 6 rfl (by kernel_rfl) (by rfl) (fun K hK => ?_)
        go_simp
        refine (HGK.out _ hSS).mono ?_
        rintro e wa ⟨rfl, hg2⟩
        have hSS2 := hSS.trans hg2
        clear hSS hg2
        have hSS := hSS2
        clear hSS2
        refine hK.out _ _ hSS ?_
        clear hK K
        try simp only [Act.put, List.setIfInBounds_toArray, List.set_cons_zero, List.set_cons_succ]
        refine draw_takeS 12 (v := ?_) rfl (by kernel_rfl) (by kernel_rfl) (by kernel_rfl) (fun _ _ _ h => h) (by rfl) hSS ?_ ?_
        rotate_left
        · intro w hS; go_simp; try with_reducible rfl
        try simp only [Act.put, List.setIfInBounds_toArray, List.set_cons_zero, List.set_cons_succ]
        refine draw_oneS 19 rfl (by kernel_rfl) (by rfl) (fun K hK => ?_)
        go_simp
        refine (HGO.out _ hSS).mono ?_
        rintro e wb ⟨rfl, hg2⟩
        have hSS2 := hSS.trans hg2
        clear hSS hg2
        have hSS := hSS2
        clear hSS2
        refine hK.out _ _ hSS ?_
        clear hK K
        try simp only [Act.put, List.setIfInBounds_toArray, List.set_cons_zero, List.set_cons_succ]
        refine draw_takeS 25 (v := ?_) rfl (by kernel_rfl) (by kernel_rfl) (by kernel_rfl) (fun _ _ _ h => h) (by rfl) hSS ?_ ?_
        rotate_left
        · intro w hS; go_simp; try with_reducible rfl
        try simp only [Act.put, List.setIfInBounds_toArray, List.set_cons_zero, List.set_cons_succ]
        refine draw_takeS 26 (v := ?_) rfl (by kernel_rfl) (by kernel_rfl) (by kernel_rfl) (fun _ _ _ h => h) (by rfl) hSS ?_ ?_
        rotate_left
        · intro w hS; go_simp; try with_reducible rfl
        try simp only [Act.put, List.setIfInBounds_toArray, List.set_cons_zero, List.set_cons_succ]
        refine wpAnyH_done (by kernel_rfl) ?_ _
        go_wp2
        go_roundw
        case rel => exact ⟨k + 1, by omega, by go_num, HG.out.trans hSS⟩
        case measure => simp [intOf]; omega
      | false =>
        have hy : (GO.toList == s2.toList) = true := by cases h : (GO.toList == s2.toList) with
          | true => rfl
          | false => rw [hx, h] at hpg; simp at hpg
        clear hpg
        go_wp2
        refine wp_region_held_drew (S := fun w' => wr.grownBy w' none) (by kernel_rfl) (gb_drew (World.grownBy.refl wr none)) (fun hSS => ?_)
        refine draw_takeS 0 (v := ?_) rfl (by kernel_rfl) (by kernel_rfl) (by kernel_rfl) (fun _ _ _ h => h) (by rfl) hSS ?_ ?_
        rotate_left
        · intro w hS; have c0 := hS.cell a0 (by simp); have c1 := hS.cell a1 (by simp); go_simp; try with_reducible rfl
        try simp only [Act.put, List.setIfInBounds_toArray, List.set_cons_zero, List.set_cons_succ]
        refine draw_takeS 1 (v := ?_) rfl (by kernel_rfl) (by kernel_rfl) (by kernel_rfl) (fun _ _ _ h => h) (by rfl) hSS ?_ ?_
        rotate_left
        · intro w hS; have c0 := hS.cell a0 (by simp); have c1 := hS.cell a1 (by simp); go_simp; try with_reducible rfl
        try simp only [Act.put, List.setIfInBounds_toArray, List.set_cons_zero, List.set_cons_succ]
        refine draw_takeS 2 (v := ?_) rfl (by kernel_rfl) (by kernel_rfl) (by kernel_rfl) (fun _ _ _ h => h) (by rfl) hSS ?_ ?_
        rotate_left
        · intro w hS; have c0 := hS.cell a0 (by simp); have c1 := hS.cell a1 (by simp); go_simp; try with_reducible rfl
        try simp only [Act.put, List.setIfInBounds_toArray, List.set_cons_zero, List.set_cons_succ]
        refine draw_takeS 3 (v := ?_) rfl (by kernel_rfl) (by kernel_rfl) (by kernel_rfl) (fun _ _ _ h => h) (by rfl) hSS ?_ ?_
        rotate_left
        · intro w hS; have c0 := hS.cell a0 (by simp); have c1 := hS.cell a1 (by simp); go_simp; try with_reducible rfl
        try simp only [Act.put, List.setIfInBounds_toArray, List.set_cons_zero, List.set_cons_succ]
        refine draw_takeS 4 (v := ?_) rfl (by kernel_rfl) (by kernel_rfl) (by kernel_rfl) (fun _ _ _ h => h) (by rfl) hSS ?_ ?_
        rotate_left
        · intro w hS; have c0 := hS.cell a0 (by simp); have c1 := hS.cell a1 (by simp); go_simp; try with_reducible rfl
        try simp only [Act.put, List.setIfInBounds_toArray, List.set_cons_zero, List.set_cons_succ]
        refine draw_takeS 5 (v := ?_) rfl (by kernel_rfl) (by kernel_rfl) (by kernel_rfl) (fun _ _ _ h => h) (by rfl) hSS ?_ ?_
        rotate_left
        · intro w hS; have c0 := hS.cell a0 (by simp); have c1 := hS.cell a1 (by simp); go_simp; try with_reducible rfl
        try simp only [Act.put, List.setIfInBounds_toArray, List.set_cons_zero, List.set_cons_succ]
        refine draw_takeS 7 (v := ?_) rfl (by kernel_rfl) (by kernel_rfl) (by kernel_rfl) (fun _ _ _ h => h) (by rfl) hSS ?_ ?_
        rotate_left
        · intro w hS; have c0 := hS.cell a0 (by simp); have c1 := hS.cell a1 (by simp); go_simp; try with_reducible rfl
        try simp only [Act.put, List.setIfInBounds_toArray, List.set_cons_zero, List.set_cons_succ]
        refine draw_takeS 8 (v := ?_) rfl (by kernel_rfl) (by kernel_rfl) (by kernel_rfl) (fun _ _ _ h => h) (by rfl) hSS ?_ ?_
        rotate_left
        · intro w hS; have c0 := hS.cell a0 (by simp); have c1 := hS.cell a1 (by simp); go_simp; try with_reducible rfl
        try simp only [Act.put, List.setIfInBounds_toArray, List.set_cons_zero, List.set_cons_succ]
        refine draw_takeS 9 (v := ?_) rfl (by kernel_rfl) (by kernel_rfl) (by kernel_rfl) (fun _ _ _ h => h) (by rfl) hSS ?_ ?_
        rotate_left
        · intro w hS; have c0 := hS.cell a0 (by simp); have c1 := hS.cell a1 (by simp); go_simp; try with_reducible rfl
        try simp only [Act.put, List.setIfInBounds_toArray, List.set_cons_zero, List.set_cons_succ]
        refine draw_takeS 10 (v := ?_) rfl (by kernel_rfl) (by kernel_rfl) (by kernel_rfl) (fun _ _ _ h => h) (by rfl) hSS ?_ ?_
        rotate_left
        · intro w hS; have c0 := hS.cell a0 (by simp); have c1 := hS.cell a1 (by simp); go_simp; try with_reducible rfl
        try simp only [Act.put, List.setIfInBounds_toArray, List.set_cons_zero, List.set_cons_succ]
        refine draw_takeS 11 (v := ?_) rfl (by kernel_rfl) (by kernel_rfl) (by kernel_rfl) (fun _ _ _ h => h) (by rfl) hSS ?_ ?_
        rotate_left
        · intro w hS; have c0 := hS.cell a0 (by simp); have c1 := hS.cell a1 (by simp); go_simp; try with_reducible rfl
        try simp only [Act.put, List.setIfInBounds_toArray, List.set_cons_zero, List.set_cons_succ]
        refine draw_takeS 13 (v := ?_) rfl (by kernel_rfl) (by kernel_rfl) (by kernel_rfl) (fun _ _ _ h => h) (by rfl) hSS ?_ ?_
        rotate_left
        · intro w hS; have c0 := hS.cell a0 (by simp); have c1 := hS.cell a1 (by simp); go_simp; try with_reducible rfl
        try simp only [Act.put, List.setIfInBounds_toArray, List.set_cons_zero, List.set_cons_succ]
        refine draw_takeS 14 (v := ?_) rfl (by kernel_rfl) (by kernel_rfl) (by kernel_rfl) (fun _ _ _ h => h) (by rfl) hSS ?_ ?_
        rotate_left
        · intro w hS; have c0 := hS.cell a0 (by simp); have c1 := hS.cell a1 (by simp); go_simp; try with_reducible rfl
        try simp only [Act.put, List.setIfInBounds_toArray, List.set_cons_zero, List.set_cons_succ]
        refine draw_takeS 15 (v := ?_) rfl (by kernel_rfl) (by kernel_rfl) (by kernel_rfl) (fun _ _ _ h => h) (by rfl) hSS ?_ ?_
        rotate_left
        · intro w hS; have c0 := hS.cell a0 (by simp); have c1 := hS.cell a1 (by simp); go_simp; try with_reducible rfl
        try simp only [Act.put, List.setIfInBounds_toArray, List.set_cons_zero, List.set_cons_succ]
        refine draw_takeS 16 (v := ?_) rfl (by kernel_rfl) (by kernel_rfl) (by kernel_rfl) (fun _ _ _ h => h) (by rfl) hSS ?_ ?_
        rotate_left
        · intro w hS; have c0 := hS.cell a0 (by simp); have c1 := hS.cell a1 (by simp); go_simp; try with_reducible rfl
        try simp only [Act.put, List.setIfInBounds_toArray, List.set_cons_zero, List.set_cons_succ]
        refine draw_takeS 17 (v := ?_) rfl (by kernel_rfl) (by kernel_rfl) (by kernel_rfl) (fun _ _ _ h => h) (by rfl) hSS ?_ ?_
        rotate_left
        · intro w hS; have c0 := hS.cell a0 (by simp); have c1 := hS.cell a1 (by simp); go_simp; try with_reducible rfl
        try simp only [Act.put, List.setIfInBounds_toArray, List.set_cons_zero, List.set_cons_succ]
        refine draw_takeS 18 (v := ?_) rfl (by kernel_rfl) (by kernel_rfl) (by kernel_rfl) (fun _ _ _ h => h) (by rfl) hSS ?_ ?_
        rotate_left
        · intro w hS; have c0 := hS.cell a0 (by simp); have c1 := hS.cell a1 (by simp); go_simp; try with_reducible rfl
        try simp only [Act.put, List.setIfInBounds_toArray, List.set_cons_zero, List.set_cons_succ]
        refine draw_takeS 20 (v := ?_) rfl (by kernel_rfl) (by kernel_rfl) (by kernel_rfl) (fun _ _ _ h => h) (by rfl) hSS ?_ ?_
        rotate_left
        · intro w hS; have c0 := hS.cell a0 (by simp); have c1 := hS.cell a1 (by simp); go_simp; try with_reducible rfl
        try simp only [Act.put, List.setIfInBounds_toArray, List.set_cons_zero, List.set_cons_succ]
        refine draw_takeS 21 (v := ?_) rfl (by kernel_rfl) (by kernel_rfl) (by kernel_rfl) (fun _ _ _ h => h) (by rfl) hSS ?_ ?_
        rotate_left
        · intro w hS; have c0 := hS.cell a0 (by simp); have c1 := hS.cell a1 (by simp); go_simp; try with_reducible rfl
        try simp only [Act.put, List.setIfInBounds_toArray, List.set_cons_zero, List.set_cons_succ]
        refine draw_takeS 22 (v := ?_) rfl (by kernel_rfl) (by kernel_rfl) (by kernel_rfl) (fun _ _ _ h => h) (by rfl) hSS ?_ ?_
        rotate_left
        · intro w hS; have c0 := hS.cell a0 (by simp); have c1 := hS.cell a1 (by simp); go_simp; try with_reducible rfl
        try simp only [Act.put, List.setIfInBounds_toArray, List.set_cons_zero, List.set_cons_succ]
        refine draw_takeS 23 (v := ?_) rfl (by kernel_rfl) (by kernel_rfl) (by kernel_rfl) (fun _ _ _ h => h) (by rfl) hSS ?_ ?_
        rotate_left
        · intro w hS; have c0 := hS.cell a0 (by simp); have c1 := hS.cell a1 (by simp); go_simp; try with_reducible rfl
        try simp only [Act.put, List.setIfInBounds_toArray, List.set_cons_zero, List.set_cons_succ]
        refine draw_takeS 24 (v := ?_) rfl (by kernel_rfl) (by kernel_rfl) (by kernel_rfl) (fun _ _ _ h => h) (by rfl) hSS ?_ ?_
        rotate_left
        · intro w hS; have c0 := hS.cell a0 (by simp); have c1 := hS.cell a1 (by simp); go_simp; try with_reducible rfl
        try simp only [Act.put, List.setIfInBounds_toArray, List.set_cons_zero, List.set_cons_succ]
        refine draw_oneS 6 rfl (by kernel_rfl) (by rfl) (fun K hK => ?_)
        go_simp
        refine (HGK.out _ hSS).mono ?_
        rintro e wa ⟨rfl, hg2⟩
        have hSS2 := hSS.trans hg2
        clear hSS hg2
        have hSS := hSS2
        clear hSS2
        refine hK.out _ _ hSS ?_
        clear hK K
        try simp only [Act.put, List.setIfInBounds_toArray, List.set_cons_zero, List.set_cons_succ]
        refine draw_takeS 12 (v := ?_) rfl (by kernel_rfl) (by kernel_rfl) (by kernel_rfl) (fun _ _ _ h => h) (by rfl) hSS ?_ ?_
        rotate_left
        · intro w hS; go_simp; try with_reducible rfl
        try simp only [Act.put, List.setIfInBounds_toArray, List.set_cons_zero, List.set_cons_succ]
        refine draw_oneS 19 rfl (by kernel_rfl) (by rfl) (fun K hK => ?_)
        go_simp
        refine (HGO.out _ hSS).mono ?_
        rintro e wb ⟨rfl, hg2⟩
        have hSS2 := hSS.trans hg2
        clear hSS hg2
        have hSS := hSS2
        clear hSS2
        refine hK.out _ _ hSS ?_
        clear hK K
        try simp only [Act.put, List.setIfInBounds_toArray, List.set_cons_zero, List.set_cons_succ]
        refine draw_takeS 25 (v := ?_) rfl (by kernel_rfl) (by kernel_rfl) (by kernel_rfl) (fun _ _ _ h => h) (by rfl) hSS ?_ ?_
        rotate_left
        · intro w hS; go_simp; try with_reducible rfl
        try simp only [Act.put, List.setIfInBounds_toArray, List.set_cons_zero, List.set_cons_succ]
        refine draw_takeS 26 (v := ?_) rfl (by kernel_rfl) (by kernel_rfl) (by kernel_rfl) (fun _ _ _ h => h) (by rfl) hSS ?_ ?_
        rotate_left
        · intro w hS; go_simp; try with_reducible rfl
        try simp only [Act.put, List.setIfInBounds_toArray, List.set_cons_zero, List.set_cons_succ]
        refine wpAnyH_done (by kernel_rfl) ?_ _
        go_wp2
        go_roundw
        case rel => exact ⟨k + 1, by omega, by go_num, HG.out.trans hSS⟩
        case measure => simp [intOf]; omega
    · have hki : ¬ (k : Int) < (L : Int) := by omega
      have HE : Hid (W.grownBy wr none) := HU4.out.trans HG.out
      have hs : ((nk : Int) + (no : Int) == (L : Int)) = true := by simp; omega
      clear HGetK HGetO HG HU4
      go_wp2_with fail
      refine (HCp.out wr HE.out).mono ?_
      rintro e x1 ⟨g1, c1, rfl, ho1, hg1⟩
      have HO1 : Hid (LOwn x1 wr.heap.size g1 L c1 z0) := ho1
      have HE1 : Hid (W.grownBy x1 none) := HE.out.trans hg1
      clear ho1 hg1 HE
      go_wp2_with fail
      refine (HNone.out g1 c1 x1 HO1.out.rd).mono ?_
      rintro e x2 ⟨v2, n2, rfl, ho2, hg2⟩
      obtain ⟨b2, c2, rfl, -, -, -, -⟩ := sown_form ho2
      have HO2 : Hid (SOwn labE 52 x2 x1.heap.size (.slice b2 n2 c2) n2 Rst) := ho2
      have HE2 : Hid (W.grownBy x2 none) := HE1.out.trans hg2
      have hn2 : n2 ≤ 16 := by have h := SOwn.len ho2; have h2 := HRl.out; omega
      clear ho2 hg2 HE1 HO1
      go_wp2_with fail
      refine (HCp.out x2 HE2.out).mono ?_
      rintro e x3 ⟨g3, c3, rfl, ho3, hg3⟩
      have HO3 : Hid (LOwn x3 x2.heap.size g3 L c3 z0) := ho3
      have HO23 : Hid (SOwn labE 52 x3 x1.heap.size (.slice b2 n2 c2) n2 Rst) := SOwn.kept HO2.out hg3 (Classical.em _)
      have HE3 : Hid (W.grownBy x3 none) := HE2.out.trans hg3
      clear ho3 hg3 HE2 HO2
      go_wp2_with fail
      refine (HRest.out g3 c3 x3 HO3.out.rd).mono ?_
      rintro e x4 ⟨v4, n4, rfl, ho4, hg4⟩
      obtain ⟨b4, c4, rfl, -, -, -, -⟩ := sown_form ho4
      have HO4 : Hid (SOwn labE 52 x4 x3.heap.size (.slice b4 n4 c4) n4 Rst) := ho4
      have HO24 : Hid (SOwn labE 52 x4 x1.heap.size (.slice b2 n2 c2) n2 Rst) := SOwn.kept HO23.out hg4 (Classical.em _)
      have HE4 : Hid (W.grownBy x4 none) := HE3.out.trans hg4
      clear ho4 hg4 HE3 HO23 HO3
      go_wp2_with fail
      refine (lsame b2 b4 Rst Rst n2 n4 c2 c4 x4 (SOwn.rd HO24.out) (SOwn.rd HO4.out) (SOwn.len HO24.out) (SOwn.len HO4.out) (by omega)).mono ?_
      rintro e x5 ⟨rfl, hg5⟩
      rw [show decide (Rst = Rst) = true by simp]
      have HE5 : Hid (W.grownBy x5 none) := HE4.out.trans hg5
      clear hg5 HO4 HO24 HE4
      go_wp2_with fail
      refine (awake_lab x5).mono ?_
      rintro e x6 ⟨rfl, hg6⟩
      have HE6 : Hid (W.grownBy x6 none) := HE5.out.trans hg6
      clear hg6
      go_wp2
      go_ret
      exact ⟨rfl, gb_below HE6.out⟩

theorem labelWiths_walk (a0 : Option Addr) (z0 : List Lab) (cap0 : Nat) (name value : ByteArray) (a1 : Option Addr) (z1 : List ByteArray) (cap1 : Nat) (W : World)
    (r0 : SRd labE W a0 z0) (n0 : a0 = none → cap0 = 0) (l0 : z0.length ≤ 4398046510976) (r1 : SRd strE W a1 z1) (n1 : a1 = none → cap1 = 0) (l1 : z1.length ≤ 8796093021952) :
    Calls Try.prog 8 #[.slice a0 z0.length cap0, .string name, .string value, .slice a1 z1.length cap1] W fun e w' => e = .returned (.bool true) ∧ Below W.heap.size W w' := by
  by_cases hC : checkR z0 = 0
  · by_cases ho : checkR [(name, value)] = 0
    · by_cases hX : (withR z0 name value).length ≤ 16
      · exact labelWiths_good a0 z0 cap0 name value a1 z1 cap1 W r0 n0 r1 n1 l1 hC ho hX
      · exact labelWiths_many a0 z0 cap0 name value a1 z1 cap1 W r0 n0 r1 n1 l1 hC ho hX
    · exact labelWiths_none a0 z0 cap0 name value a1 z1 cap1 W r0 n0 r1 n1 l1 hC ho
  · exact labelWiths_not a0 z0 cap0 name value a1 _ cap1 W r0 n0 l0 hC
end Go.Proofs.Ytailaehpgmpaaaa
