/- Values, sets with a label more, and parts of sets are as the document says. -/
import Derived.Test.YtailaehpgmpaaaaLwith
namespace Go.Proofs.Ytailaehpgmpaaaa
open Go.ChangeShapes Go.WideShapes Go.ChangeAt Go.RowKit
set_option linter.unusedVariables false

theorem sown_past {α : Type} {E : Elem α} {e : TypeId} {w w' : World} {base n : Nat} {v : Value} {l : List α} {row : Option Nat} (h : SOwn E e w base v n l) (hg : w.grownBy w' row) (hb : ∀ k, row = some k → k < base) : SOwn E e w' base v n l := by
  refine SOwn.kept h hg ?_
  cases hv : v.ownBlock with
  | none => exact .inl rfl
  | some k =>
    right
    intro e
    have h1 := (SOwn.block h k hv).1
    have h2 := hb k e.symm
    omega

set_option maxHeartbeats 4000000 in
theorem labelAsks_walk (a0 : Option Addr) (z0 : List Lab) (cap0 : Nat) (name value : ByteArray) (a1 : Option Addr) (z1 : List ByteArray) (cap1 : Nat) (W : World)
    (r0 : SRd labE W a0 z0) (n0 : a0 = none → cap0 = 0) (l0 : z0.length ≤ 4398046510976) (r1 : SRd strE W a1 z1) (n1 : a1 = none → cap1 = 0) (l1 : z1.length ≤ 8796093021952) :
    Calls Try.prog 5 #[.slice a0 z0.length cap0, .string name, .string value, .slice a1 z1.length cap1] W fun e w' => e = .returned (.bool true) ∧ Below W.heap.size W w' := by
  obtain ⟨G, eG⟩ : ∃ G, getR z0 name = G := ⟨_, rfl⟩
  obtain ⟨X, eX⟩ : ∃ X, withR z0 name value = X := ⟨_, rfl⟩
  obtain ⟨K, eK⟩ : ∃ K, someR z0 z1 true = K := ⟨_, rfl⟩
  obtain ⟨O, eO⟩ : ∃ O, someR z0 z1 false = O := ⟨_, rfl⟩
  have HXl : Hid (X.length ≤ 4398046510980) := by show _ ≤ _; have := withR_len z0 name value; rw [eX] at this; omega
  have HKl : Hid (K.length ≤ 4398046510980) := by show _ ≤ _; have := someR_len z0 z1 true; rw [eK] at this; omega
  have HOl : Hid (O.length ≤ 4398046510980) := by show _ ≤ _; have := someR_len z0 z1 false; rw [eO] at this; omega
  have HLl : Hid (∀ w, W.grownBy w none → Calls Try.prog 9 #[.slice a0 z0.length cap0] w fun e w' => ∃ g c, e = .returned (.slice (some ⟨g, 0, none⟩) z0.length c) ∧ LOwn w' w.heap.size g (z0.length + 2) c (z0 ++ sp2) ∧ w.grownBy w' none) := fun w hg => llend a0 z0 _ cap0 w (r0.grown hg (by simp)) rfl n0 (by omega)
  have HLt : Hid (∀ w, W.grownBy w none → Calls Try.prog 28 #[.slice a1 z1.length cap1] w fun e w' => ∃ g c, e = .returned (.slice (some ⟨g, 0, none⟩) z1.length c) ∧ TOwn w' w.heap.size g (z1.length + 2) c (z1 ++ ts2) ∧ w.grownBy w' none) := fun w hg => tlend a1 z1 _ cap1 w (r1.grown hg (by simp)) rfl n1 (by omega)
  have HGet : Hid (∀ (g c : Nat) (w : World), SRd labE w (some ⟨g, 0, none⟩) z0 → Calls Try.prog 29 #[.slice (some ⟨g, 0, none⟩) z0.length c, .string name] w fun e w' => e = .returned (.string G) ∧ w.grownBy w' none) := fun g c w h => f_get _ z0 _ c name G w h rfl (by omega) eG
  have HWith : Hid (∀ (g c : Nat) (w : World), SRd labE w (some ⟨g, 0, none⟩) z0 → Calls Try.prog 30 #[.slice (some ⟨g, 0, none⟩) z0.length c, .string name, .string value] w fun e w' => ∃ v n, e = .returned v ∧ SOwn labE 52 w' w.heap.size v n X ∧ w.grownBy w' none) := fun g c w h => f_with _ z0 _ c name value X w h rfl (by omega) eX
  have HKeep : Hid (∀ (g c h d : Nat) (w : World), SRd labE w (some ⟨g, 0, none⟩) z0 → SRd strE w (some ⟨h, 0, none⟩) z1 → Calls Try.prog 31 #[.slice (some ⟨g, 0, none⟩) z0.length c, .slice (some ⟨h, 0, none⟩) z1.length d] w fun e w' => ∃ v n, e = .returned v ∧ SOwn labE 52 w' w.heap.size v n K ∧ w.grownBy w' none) := fun g c h d w hh ht => f_keep _ _ z0 z1 _ _ c d K w hh ht rfl rfl (by omega) (by omega) eK
  have HWout : Hid (∀ (g c h d : Nat) (w : World), SRd labE w (some ⟨g, 0, none⟩) z0 → SRd strE w (some ⟨h, 0, none⟩) z1 → Calls Try.prog 32 #[.slice (some ⟨g, 0, none⟩) z0.length c, .slice (some ⟨h, 0, none⟩) z1.length d] w fun e w' => ∃ v n, e = .returned v ∧ SOwn labE 52 w' w.heap.size v n O ∧ w.grownBy w' none) := fun g c h d w hh ht => f_without _ _ z0 z1 _ _ c d O w hh ht rfl rfl (by omega) (by omega) eO
  have HKl0 : Hid (∀ (base g c : Nat) (w : World), W.grownBy w none → LOwn w base g (z0.length + 2) c (z0 ++ sp2) → Calls Try.prog 14 #[.slice (some ⟨g, 0, none⟩) z0.length c, .slice a0 z0.length cap0] w fun e w' => e = .returned (.bool true) ∧ w.grownBy w' (some g)) := fun base g c w hg ho => lkept a0 z0 base g _ c cap0 w (r0.grown hg (by simp)) rfl ho (by omega)
  have HKt0 : Hid (∀ (base g c : Nat) (w : World), W.grownBy w none → TOwn w base g (z1.length + 2) c (z1 ++ ts2) → Calls Try.prog 33 #[.slice (some ⟨g, 0, none⟩) z1.length c, .slice a1 z1.length cap1] w fun e w' => e = .returned (.bool true) ∧ w.grownBy w' (some g)) := fun base g c w hg ho => tkept a1 z1 base g _ c cap1 w (r1.grown hg (by simp)) rfl ho (by omega)
  have HrG : Hid (∀ w, W.grownBy w none → Calls Try.prog 34 #[.slice a0 z0.length cap0, .string name] w fun e w' => e = .returned (.string G) ∧ w.grownBy w' none) := fun w hg => (r_get a0 z0 _ cap0 name G w (r0.grown hg (by simp)) rfl (by omega) eG).mono (by rintro e w' ⟨rfl, rfl⟩; exact ⟨rfl, World.grownBy.refl _ _⟩)
  have HrW : Hid (∀ w, W.grownBy w none → Calls Try.prog 35 #[.slice a0 z0.length cap0, .string name, .string value] w fun e w' => ∃ v n, e = .returned v ∧ SOwn labE 52 w' w.heap.size v n X ∧ w.grownBy w' none) := fun w hg => by
    have h := r_with a0 z0 _ cap0 name value w (r0.grown hg (by simp)) rfl (by omega); rw [eX] at h; exact h
  have HrK : Hid (∀ w, W.grownBy w none → Calls Try.prog 36 #[.slice a0 z0.length cap0, .slice a1 z1.length cap1, .bool true] w fun e w' => ∃ v n, e = .returned v ∧ SOwn labE 52 w' w.heap.size v n K ∧ w.grownBy w' none) := fun w hg => by
    have h := r_some a0 a1 z0 z1 _ _ cap0 cap1 true w (r0.grown hg (by simp)) (r1.grown hg (by simp)) rfl rfl (by omega) (by omega); rw [eK] at h; exact h
  have HrO : Hid (∀ w, W.grownBy w none → Calls Try.prog 36 #[.slice a0 z0.length cap0, .slice a1 z1.length cap1, .bool false] w fun e w' => ∃ v n, e = .returned v ∧ SOwn labE 52 w' w.heap.size v n O ∧ w.grownBy w' none) := fun w hg => by
    have h := r_some a0 a1 z0 z1 _ _ cap0 cap1 false w (r0.grown hg (by simp)) (r1.grown hg (by simp)) rfl rfl (by omega) (by omega); rw [eO] at h; exact h
  obtain ⟨L, eL⟩ : ∃ L, L = z0.length := ⟨_, rfl⟩
  obtain ⟨M, eM⟩ : ∃ M, M = z1.length := ⟨_, rfl⟩
  rw [← eL] at HLl HGet HWith HKeep HWout HKl0 HrG HrW HrK HrO l0 ⊢
  rw [← eM] at HLt HKeep HWout HKt0 HrK HrO l1 ⊢
  clear r0 r1 n0 n1 eL eM eG eX eK eO
  go_enter Try.func5, Try.ntmps5
  go_wp2_with fail
  refine (HLl.out W (World.grownBy.refl _ _)).mono ?_
  rintro e w1 ⟨gx, cx, rfl, hox, hg1⟩
  have HOX : Hid (LOwn w1 W.heap.size gx (L + 2) cx (z0 ++ sp2)) := hox
  have HG1 : Hid (W.grownBy w1 none) := hg1
  have HGX : Hid (W.heap.size ≤ gx ∧ gx < w1.heap.size) := hox.ge
  clear hox hg1 HLl
  go_wp2_with fail
  refine (HLt.out w1 HG1.out).mono ?_
  rintro e w2 ⟨gy, cy, rfl, hoy, hg2⟩
  have HOY : Hid (TOwn w2 w1.heap.size gy (M + 2) cy (z1 ++ ts2)) := hoy
  have HG12 : Hid (w1.grownBy w2 none) := hg2
  have HG2 : Hid (W.grownBy w2 none) := HG1.out.trans hg2
  have HGY : Hid (w1.heap.size ≤ gy ∧ gy < w2.heap.size) := hoy.ge
  have HOX2 : Hid (LOwn w2 W.heap.size gx (L + 2) cx (z0 ++ sp2)) := HOX.out.kept hg2 (by simp)
  clear hoy hg2 HLt HOX
  go_wp2_with fail
  refine (HGet.out gx cx w2 HOX2.out.head).mono ?_
  rintro e w3 ⟨rfl, hg3⟩
  have HG23 : Hid (w2.grownBy w3 none) := hg3
  clear hg3 HGet
  go_wp2_with fail
  refine (HWith.out gx cx w3 (HOX2.out.kept HG23.out (by simp)).head).mono ?_
  rintro e w4 ⟨v4, n4, rfl, ho4, hg4⟩
  obtain ⟨b4, c4, rfl, -, -, -, -⟩ := sown_form ho4
  have HO4 : Hid (SOwn labE 52 w4 w3.heap.size (.slice b4 n4 c4) n4 X) := ho4
  have HN4 : n4 ≤ 4398046510980 := by have h := SOwn.len ho4; have h2 := HXl.out; omega
  have HG24 : Hid (w2.grownBy w4 none) := HG23.out.trans hg4
  have HG34 : Hid (w3.grownBy w4 none) := hg4
  have HB4 : Hid (∀ k, (Value.slice b4 n4 c4).ownBlock = some k → w3.heap.size ≤ k ∧ k < w4.heap.size) := SOwn.block ho4
  clear ho4 hg4 HWith
  go_wp2_with fail
  refine (HKeep.out gx cx gy cy w4 (HOX2.out.kept HG24.out (by simp)).head (HOY.out.kept HG24.out (by simp)).head).mono ?_
  rintro e w5 ⟨v5, n5, rfl, ho5, hg5⟩
  obtain ⟨b5, c5, rfl, -, -, -, -⟩ := sown_form ho5
  have HO5 : Hid (SOwn labE 52 w5 w4.heap.size (.slice b5 n5 c5) n5 K) := ho5
  have HN5 : n5 ≤ 4398046510980 := by have h := SOwn.len ho5; have h2 := HKl.out; omega
  have HG45 : Hid (w4.grownBy w5 none) := hg5
  have HG25 : Hid (w2.grownBy w5 none) := HG24.out.trans hg5
  have HB5 : Hid (∀ k, (Value.slice b5 n5 c5).ownBlock = some k → w4.heap.size ≤ k ∧ k < w5.heap.size) := SOwn.block ho5
  clear ho5 hg5 HKeep
  go_wp2_with fail
  refine (HWout.out gx cx gy cy w5 (HOX2.out.kept HG25.out (by simp)).head (HOY.out.kept HG25.out (by simp)).head).mono ?_
  rintro e w6 ⟨v6, n6, rfl, ho6, hg6⟩
  obtain ⟨b6, c6, rfl, -, -, -, -⟩ := sown_form ho6
  have HN6 : n6 ≤ 4398046510980 := by have h := SOwn.len ho6; have h2 := HOl.out; omega
  have HG26 : Hid (w2.grownBy w6 none) := HG25.out.trans hg6
  have HG56 : Hid (w5.grownBy w6 none) := hg6
  have HO6 : Hid (SOwn labE 52 w6 w5.heap.size (.slice b6 n6 c6) n6 O) := ho6
  have HO5' : Hid (SOwn labE 52 w6 w4.heap.size (.slice b5 n5 c5) n5 K) := sown_past HO5.out hg6 (by simp)
  have HO4' : Hid (SOwn labE 52 w6 w3.heap.size (.slice b4 n4 c4) n4 X) := sown_past HO4.out (HG45.out.trans hg6) (by simp)
  have HG6 : Hid (W.grownBy w6 none) := HG2.out.trans HG26.out
  have HSz : Hid (w1.heap.size ≤ w2.heap.size ∧ w2.heap.size ≤ w3.heap.size ∧ w3.heap.size ≤ w4.heap.size ∧ w4.heap.size ≤ w5.heap.size) := ⟨HG12.out.size, HG23.out.size, HG34.out.size, HG45.out.size⟩
  clear ho6 hg6 HWout HO4 HO5 HG25 HG24 HG56
  go_wp2_with fail
  refine (HKl0.out _ gx cx w6 HG6.out (HOX2.out.kept HG26.out (by simp))).mono ?_
  rintro e w7 ⟨rfl, hg7⟩
  have HG7 : Hid (W.grownBy w7 none) := gb_trans HG6.out hg7 (fun k hk => .inl (by simp at hk; have := HGX.out.1; omega))
  have HOY7 : Hid (TOwn w7 w1.heap.size gy (M + 2) cy (z1 ++ ts2)) := (HOY.out.kept HG26.out (by simp)).kept hg7 (by have h1 := HGX.out; have h2 := HGY.out; intro e; simp at e; omega)
  have HO6a : Hid (SOwn labE 52 w7 w5.heap.size (.slice b6 n6 c6) n6 O) := sown_past HO6.out hg7 (fun k hk => by simp at hk; have := HGX.out; have := HSz.out; omega)
  have HO5a : Hid (SOwn labE 52 w7 w4.heap.size (.slice b5 n5 c5) n5 K) := sown_past HO5'.out hg7 (fun k hk => by simp at hk; have := HGX.out; have := HSz.out; omega)
  have HO4a : Hid (SOwn labE 52 w7 w3.heap.size (.slice b4 n4 c4) n4 X) := sown_past HO4'.out hg7 (fun k hk => by simp at hk; have := HGX.out; have := HSz.out; omega)
  clear hg7 HKl0 HO4' HO5' HO6 HOX2 HOY
  go_wp2_with fail
  refine (HKt0.out _ gy cy w7 HG7.out HOY7.out).mono ?_
  rintro e w8 ⟨rfl, hg8⟩
  have HG8 : Hid (W.grownBy w8 none) := gb_trans HG7.out hg8 (fun k hk => .inl (by simp at hk; have := HGX.out; have := HGY.out; omega))
  have HO6b : Hid (SOwn labE 52 w8 w5.heap.size (.slice b6 n6 c6) n6 O) := sown_past HO6a.out hg8 (fun k hk => by simp at hk; have := HGY.out; have := HSz.out; omega)
  have HO5b : Hid (SOwn labE 52 w8 w4.heap.size (.slice b5 n5 c5) n5 K) := sown_past HO5a.out hg8 (fun k hk => by simp at hk; have := HGY.out; have := HSz.out; omega)
  have HO4b : Hid (SOwn labE 52 w8 w3.heap.size (.slice b4 n4 c4) n4 X) := sown_past HO4a.out hg8 (fun k hk => by simp at hk; have := HGY.out; have := HSz.out; omega)
  clear hg8 HKt0 HO4a HO5a HO6a HOY7
  have qG : (G.toList != G.toList) = false := by simp
  go_wp2_with fail
  refine (HrG.out w8 HG8.out).mono ?_
  rintro e w9 ⟨rfl, hg9⟩
  have HG89 : Hid (w8.grownBy w9 none) := hg9
  clear hg9 HrG
  go_wp2_with fail
  refine (HrW.out w9 (HG8.out.trans HG89.out)).mono ?_
  rintro e w10 ⟨v10, n10, rfl, ho10, hg10⟩
  obtain ⟨b10, c10, rfl, -, -, -, -⟩ := sown_form ho10
  have HO10 : Hid (SOwn labE 52 w10 w9.heap.size (.slice b10 n10 c10) n10 X) := ho10
  have HG810 : Hid (w8.grownBy w10 none) := HG89.out.trans hg10
  clear ho10 hg10 HrW HG89
  go_wp2_with fail
  refine (lsame b4 b10 X X n4 n10 c4 c10 w10 (SOwn.rd (sown_past HO4b.out HG810.out (by simp))) (SOwn.rd HO10.out) (SOwn.len HO4b.out) (SOwn.len HO10.out) (by omega)).mono ?_
  rintro e w11 ⟨rfl, hg11⟩
  rw [show decide (X = X) = true by simp]
  have HG811 : Hid (w8.grownBy w11 none) := HG810.out.trans hg11
  clear hg11 HO10 HG810
  go_wp2_with fail
  refine (HrK.out w11 (HG8.out.trans HG811.out)).mono ?_
  rintro e w12 ⟨v12, n12, rfl, ho12, hg12⟩
  obtain ⟨b12, c12, rfl, -, -, -, -⟩ := sown_form ho12
  have HO12 : Hid (SOwn labE 52 w12 w11.heap.size (.slice b12 n12 c12) n12 K) := ho12
  have HG812 : Hid (w8.grownBy w12 none) := HG811.out.trans hg12
  clear ho12 hg12 HrK HG811
  go_wp2_with fail
  refine (lsame b5 b12 K K n5 n12 c5 c12 w12 (SOwn.rd (sown_past HO5b.out HG812.out (by simp))) (SOwn.rd HO12.out) (SOwn.len HO5b.out) (SOwn.len HO12.out) (by omega)).mono ?_
  rintro e w13 ⟨rfl, hg13⟩
  rw [show decide (K = K) = true by simp]
  have HG813 : Hid (w8.grownBy w13 none) := HG812.out.trans hg13
  clear hg13 HO12 HG812
  go_wp2_with fail
  refine (HrO.out w13 (HG8.out.trans HG813.out)).mono ?_
  rintro e w14 ⟨v14, n14, rfl, ho14, hg14⟩
  obtain ⟨b14, c14, rfl, -, -, -, -⟩ := sown_form ho14
  have HO14 : Hid (SOwn labE 52 w14 w13.heap.size (.slice b14 n14 c14) n14 O) := ho14
  have HG814 : Hid (w8.grownBy w14 none) := HG813.out.trans hg14
  clear ho14 hg14 HG813
  go_wp2_with fail
  refine (lsame b6 b14 O O n6 n14 c6 c14 w14 (SOwn.rd (sown_past HO6b.out HG814.out (by simp))) (SOwn.rd HO14.out) (SOwn.len HO6b.out) (SOwn.len HO14.out) (by omega)).mono ?_
  rintro e w15 ⟨rfl, hg15⟩
  rw [show decide (O = O) = true by simp]
  have HG815 : Hid (w8.grownBy w15 none) := HG814.out.trans hg15
  have HG15 : Hid (W.grownBy w15 none) := HG8.out.trans HG815.out
  have HO6c : Hid (SOwn labE 52 w15 w5.heap.size (.slice b6 n6 c6) n6 O) := sown_past HO6b.out HG815.out (by simp)
  have HO5c : Hid (SOwn labE 52 w15 w4.heap.size (.slice b5 n5 c5) n5 K) := sown_past HO5b.out HG815.out (by simp)
  have HO4c : Hid (SOwn labE 52 w15 w3.heap.size (.slice b4 n4 c4) n4 X) := sown_past HO4b.out HG815.out (by simp)
  have HSz0 : Hid (W.heap.size ≤ w3.heap.size) := Nat.le_trans HG2.out.size HG23.out.size
  clear hg15 HO14 HG814 HG815 HO6b HO5b HO4b HG8
  go_wp2_with fail
  refine (lspoil b4 w3.heap.size n4 c4 X w15 HO4c.out (by omega)).mono ?_
  rintro e w16 ⟨rfl, hg16⟩
  have HG16 : Hid (W.grownBy w16 none) := gb_trans HG15.out hg16 (fun k hk => .inl (by have := HB4.out k hk; have := HSz0.out; omega))
  have HO6d : Hid (SOwn labE 52 w16 w5.heap.size (.slice b6 n6 c6) n6 O) := sown_past HO6c.out hg16 (fun k hk => by have := HB4.out k hk; have := HSz.out; omega)
  have HO5d : Hid (SOwn labE 52 w16 w4.heap.size (.slice b5 n5 c5) n5 K) := sown_past HO5c.out hg16 (fun k hk => by have := HB4.out k hk; have := HSz.out; omega)
  clear hg16 HO4c HO5c HO6c HG15
  go_wp2_with fail
  refine (lspoil b5 w4.heap.size n5 c5 K w16 HO5d.out (by omega)).mono ?_
  rintro e w17 ⟨rfl, hg17⟩
  have HG17 : Hid (W.grownBy w17 none) := gb_trans HG16.out hg17 (fun k hk => .inl (by have := HB5.out k hk; have := HSz0.out; have := HSz.out; omega))
  have HO6e : Hid (SOwn labE 52 w17 w5.heap.size (.slice b6 n6 c6) n6 O) := sown_past HO6d.out hg17 (fun k hk => by have := HB5.out k hk; omega)
  clear hg17 HO5d HO6d HG16
  go_wp2_with fail
  refine (HrO.out w17 HG17.out).mono ?_
  rintro e w18 ⟨v18, n18, rfl, ho18, hg18⟩
  obtain ⟨b18, c18, rfl, -, -, -, -⟩ := sown_form ho18
  have HO18 : Hid (SOwn labE 52 w18 w17.heap.size (.slice b18 n18 c18) n18 O) := ho18
  have HO6f : Hid (SOwn labE 52 w18 w5.heap.size (.slice b6 n6 c6) n6 O) := sown_past HO6e.out hg18 (by simp)
  have HG18 : Hid (W.grownBy w18 none) := HG17.out.trans hg18
  clear ho18 hg18 HrO HO6e HG17
  go_wp2_with fail
  refine (lsame b6 b18 O O n6 n18 c6 c18 w18 (SOwn.rd HO6f.out) (SOwn.rd HO18.out) (SOwn.len HO6f.out) (SOwn.len HO18.out) (by omega)).mono ?_
  rintro e w19 ⟨rfl, hg19⟩
  rw [show decide (O = O) = true by simp]
  have HG19 : Hid (W.grownBy w19 none) := HG18.out.trans hg19
  clear hg19 HO18 HO6f HG18
  go_wp2_with fail
  refine (awake_lab w19).mono ?_
  rintro e w20 ⟨rfl, hg20⟩
  have HG20 : Hid (W.grownBy w20 none) := HG19.out.trans hg20
  clear hg20
  go_wp2
  go_ret
  exact ⟨rfl, gb_below HG20.out⟩
end Go.Proofs.Ytailaehpgmpaaaa
