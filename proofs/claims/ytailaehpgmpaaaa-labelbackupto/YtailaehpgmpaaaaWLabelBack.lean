/- A set that may be is read back from its bytes, wherever they stand; unlike sets have unlike bytes and texts. -/
import Derived.Test.YtailaehpgmpaaaaLback
namespace Go.Proofs.Ytailaehpgmpaaaa
open Go.ChangeShapes Go.WideShapes Go.ChangeAt Go.RowKit
set_option linter.unusedVariables false

set_option maxHeartbeats 1000000 in
theorem labelBack_not1 (a0 : Option Addr) (z0 : List Int) (cap0 : Nat) (a1 : Option Addr) (z1 : List Lab) (cap1 : Nat) (a2 : Option Addr) (z2 : List Lab) (cap2 : Nat) (a3 : Option Addr) (z3 : List Int) (cap3 : Nat) (W : World)
    (r1 : SRd labE W a1 z1) (n1 : a1 = none → cap1 = 0) (l1 : z1.length ≤ 4398046510976) (hC1 : ¬ checkR z1 = 0) :
    Calls Try.prog 7 #[.slice a0 z0.length cap0, .slice a1 z1.length cap1, .slice a2 z2.length cap2, .slice a3 z3.length cap3] W fun e w' => e = .returned (.bool true) ∧ Below W.heap.size W w' := by
  obtain ⟨C, eC⟩ : ∃ C, checkR z1 = C := ⟨_, rfl⟩
  have hC' : (C != 0) = true := by rw [← eC]; simpa using hC1
  have HP1 : Hid (∀ w, W.grownBy w none → Calls Try.prog 38 #[.slice a1 z1.length cap1] w fun e w' => ∃ g c, e = .returned (.slice (some ⟨g, 0, none⟩) z1.length c) ∧ LOwn w' w.heap.size g z1.length c z1 ∧ w.grownBy w' none) := fun w hg => lcopy a1 z1 _ cap1 w (r1.grown hg (by simp)) rfl n1 (by omega)
  have HC1 : Hid (∀ (g c : Nat) (w : World), SRd labE w (some ⟨g, 0, none⟩) z1 → Calls Try.prog 10 #[.slice (some ⟨g, 0, none⟩) z1.length c] w fun e w' => e = .returned (.int .i64 C) ∧ w.grownBy w' none) := fun g c w h => f_check _ z1 _ c C w h rfl (by omega) eC
  obtain ⟨L1, e1⟩ : ∃ L, L = z1.length := ⟨_, rfl⟩
  rw [← e1] at HP1 HC1 l1 ⊢
  clear r1 n1 eC hC1 e1
  go_enter Try.func7, Try.ntmps7
  go_wp2_with fail
  refine (HP1.out W (World.grownBy.refl W none)).mono ?_
  rintro e w1 ⟨g1, c1, rfl, ho1, hg1⟩
  have HO1 : Hid (LOwn w1 W.heap.size g1 L1 c1 z1) := ho1
  have HGw1 : Hid (W.grownBy w1 none) := ((World.grownBy.refl W none)).trans hg1
  clear ho1 hg1
  go_wp2_with fail
  refine (HC1.out g1 c1 w1 HO1.out.rd).mono ?_
  rintro e w2 ⟨rfl, hg2⟩
  have HGw2 : Hid (W.grownBy w2 none) := HGw1.out.trans hg2
  clear hg2 HO1 HGw1
  go_wp2_with fail
  refine (awake_lab w2).mono ?_
  rintro e wz ⟨rfl, hgz⟩
  have HGz : Hid (W.grownBy wz none) := HGw2.out.trans hgz
  clear hgz
  go_wp2
  go_ret
  exact ⟨rfl, gb_below HGz.out⟩

set_option maxHeartbeats 1000000 in
theorem labelBack_not2 (a0 : Option Addr) (z0 : List Int) (cap0 : Nat) (a1 : Option Addr) (z1 : List Lab) (cap1 : Nat) (a2 : Option Addr) (z2 : List Lab) (cap2 : Nat) (a3 : Option Addr) (z3 : List Int) (cap3 : Nat) (W : World)
    (r1 : SRd labE W a1 z1) (n1 : a1 = none → cap1 = 0) (l1 : z1.length ≤ 4398046510976) (r2 : SRd labE W a2 z2) (n2 : a2 = none → cap2 = 0) (l2 : z2.length ≤ 4398046510976) (hC1 : checkR z1 = 0) (hC2 : ¬ checkR z2 = 0) :
    Calls Try.prog 7 #[.slice a0 z0.length cap0, .slice a1 z1.length cap1, .slice a2 z2.length cap2, .slice a3 z3.length cap3] W fun e w' => e = .returned (.bool true) ∧ Below W.heap.size W w' := by
  obtain ⟨C, eC⟩ : ∃ C, checkR z2 = C := ⟨_, rfl⟩
  have hC' : (C != 0) = true := by rw [← eC]; simpa using hC2
  have HP1 : Hid (∀ w, W.grownBy w none → Calls Try.prog 38 #[.slice a1 z1.length cap1] w fun e w' => ∃ g c, e = .returned (.slice (some ⟨g, 0, none⟩) z1.length c) ∧ LOwn w' w.heap.size g z1.length c z1 ∧ w.grownBy w' none) := fun w hg => lcopy a1 z1 _ cap1 w (r1.grown hg (by simp)) rfl n1 (by omega)
  have HP2 : Hid (∀ w, W.grownBy w none → Calls Try.prog 38 #[.slice a2 z2.length cap2] w fun e w' => ∃ g c, e = .returned (.slice (some ⟨g, 0, none⟩) z2.length c) ∧ LOwn w' w.heap.size g z2.length c z2 ∧ w.grownBy w' none) := fun w hg => lcopy a2 z2 _ cap2 w (r2.grown hg (by simp)) rfl n2 (by omega)
  have HC1 : Hid (∀ (g c : Nat) (w : World), SRd labE w (some ⟨g, 0, none⟩) z1 → Calls Try.prog 10 #[.slice (some ⟨g, 0, none⟩) z1.length c] w fun e w' => e = .returned (.int .i64 0) ∧ w.grownBy w' none) := fun g c w h => f_check _ z1 _ c 0 w h rfl (by omega) hC1
  have HC2 : Hid (∀ (g c : Nat) (w : World), SRd labE w (some ⟨g, 0, none⟩) z2 → Calls Try.prog 10 #[.slice (some ⟨g, 0, none⟩) z2.length c] w fun e w' => e = .returned (.int .i64 C) ∧ w.grownBy w' none) := fun g c w h => f_check _ z2 _ c C w h rfl (by omega) eC
  obtain ⟨L1, e1⟩ : ∃ L, L = z1.length := ⟨_, rfl⟩
  obtain ⟨L2, e2⟩ : ∃ L, L = z2.length := ⟨_, rfl⟩
  rw [← e1] at HP1 HC1 l1 ⊢
  rw [← e2] at HP2 HC2 l2 ⊢
  clear r1 n1 r2 n2 eC hC1 hC2 e1 e2
  go_enter Try.func7, Try.ntmps7
  go_wp2_with fail
  refine (HP1.out W (World.grownBy.refl W none)).mono ?_
  rintro e w1 ⟨g1, c1, rfl, ho1, hg1⟩
  have HO1 : Hid (LOwn w1 W.heap.size g1 L1 c1 z1) := ho1
  have HGw1 : Hid (W.grownBy w1 none) := ((World.grownBy.refl W none)).trans hg1
  clear ho1 hg1
  go_wp2_with fail
  refine (HC1.out g1 c1 w1 HO1.out.rd).mono ?_
  rintro e w2 ⟨rfl, hg2⟩
  have HGw2 : Hid (W.grownBy w2 none) := HGw1.out.trans hg2
  clear hg2 HO1 HGw1
  go_wp2_with fail
  refine (HP2.out w2 HGw2.out).mono ?_
  rintro e w3 ⟨g1, c1, rfl, ho1, hg1⟩
  have HO1 : Hid (LOwn w3 w2.heap.size g1 L2 c1 z2) := ho1
  have HGw3 : Hid (W.grownBy w3 none) := (HGw2.out).trans hg1
  clear ho1 hg1
  go_wp2_with fail
  refine (HC2.out g1 c1 w3 HO1.out.rd).mono ?_
  rintro e w4 ⟨rfl, hg2⟩
  have HGw4 : Hid (W.grownBy w4 none) := HGw3.out.trans hg2
  clear hg2 HO1 HGw3
  go_wp2_with fail
  refine (awake_lab w4).mono ?_
  rintro e wz ⟨rfl, hgz⟩
  have HGz : Hid (W.grownBy wz none) := HGw4.out.trans hgz
  clear hgz
  go_wp2
  go_ret
  exact ⟨rfl, gb_below HGz.out⟩


set_option maxHeartbeats 8000000 in
theorem labelBack_good (a0 : Option Addr) (z0 : List Int) (cap0 : Nat) (a1 : Option Addr) (z1 : List Lab) (cap1 : Nat) (a2 : Option Addr) (z2 : List Lab) (cap2 : Nat) (a3 : Option Addr) (z3 : List Int) (cap3 : Nat) (W : World)
    (r0 : Rd W a0 z0) (n0 : a0 = none → cap0 = 0) (r3 : Rd W a3 z3) (n3 : a3 = none → cap3 = 0) (hsz : z0.length + z3.length ≤ 140737488340000)
    (r1 : SRd labE W a1 z1) (n1 : a1 = none → cap1 = 0) (r2 : SRd labE W a2 z2) (n2 : a2 = none → cap2 = 0) (hC1 : checkR z1 = 0) (hC2 : checkR z2 = 0) :
    Calls Try.prog 7 #[.slice a0 z0.length cap0, .slice a1 z1.length cap1, .slice a2 z2.length cap2, .slice a3 z3.length cap3] W fun e w' => e = .returned (.bool true) ∧ Below W.heap.size W w' := by
  have l1 : z1.length ≤ 16 := ((check_iff z1).1 hC1).1
  have l2 : z2.length ≤ 16 := ((check_iff z2).1 hC2).1
  obtain ⟨X, eX⟩ : ∃ X, encR z1 = X := ⟨_, rfl⟩
  obtain ⟨Y, eY⟩ : ∃ X, encR z2 = X := ⟨_, rfl⟩
  obtain ⟨T, eT⟩ : ∃ X, labText z1 = X := ⟨_, rfl⟩
  obtain ⟨U, eU⟩ : ∃ X, labText z2 = X := ⟨_, rfl⟩
  obtain ⟨S, eS⟩ : ∃ S, decide (z1 = z2) = S := ⟨_, rfl⟩
  have HXl : Hid (X.length ≤ 6000) := by show _ ≤ _; rw [← eX]; exact enc_size hC1
  have HXY : Hid (decide (X = Y) = S) := by
    show _ = _
    rw [← eX, ← eY, ← eS, decide_eq_decide]
    exact ⟨fun h => enc_inj hC1 hC2 h, fun h => by rw [h]⟩
  have hTU : (T.toList == U.toList) = S := by
    rw [str_eq, ← eT, ← eU, ← eS, decide_eq_decide]
    exact ⟨fun h => text_inj hC1 hC2 h, fun h => by rw [h]⟩
  have HD : Hid (decodeR (z0 ++ X ++ z3) (z0.length : Int) = (z1, (z0.length : Int) + (X.length : Int), 0)) := by
    show _ = _
    rw [← eX, List.append_assoc]
    exact decode_at z0 z3 z1 hC1
  have HP1 : Hid (∀ w, W.grownBy w none → Calls Try.prog 38 #[.slice a1 z1.length cap1] w fun e w' => ∃ g c, e = .returned (.slice (some ⟨g, 0, none⟩) z1.length c) ∧ LOwn w' w.heap.size g z1.length c z1 ∧ w.grownBy w' none) := fun w hg => lcopy a1 z1 _ cap1 w (r1.grown hg (by simp)) rfl n1 (by omega)
  have HP2 : Hid (∀ w, W.grownBy w none → Calls Try.prog 38 #[.slice a2 z2.length cap2] w fun e w' => ∃ g c, e = .returned (.slice (some ⟨g, 0, none⟩) z2.length c) ∧ LOwn w' w.heap.size g z2.length c z2 ∧ w.grownBy w' none) := fun w hg => lcopy a2 z2 _ cap2 w (r2.grown hg (by simp)) rfl n2 (by omega)
  have HC1 : Hid (∀ (g c : Nat) (w : World), SRd labE w (some ⟨g, 0, none⟩) z1 → Calls Try.prog 10 #[.slice (some ⟨g, 0, none⟩) z1.length c] w fun e w' => e = .returned (.int .i64 0) ∧ w.grownBy w' none) := fun g c w h => f_check _ z1 _ c 0 w h rfl (by omega) hC1
  have HC2 : Hid (∀ (g c : Nat) (w : World), SRd labE w (some ⟨g, 0, none⟩) z2 → Calls Try.prog 10 #[.slice (some ⟨g, 0, none⟩) z2.length c] w fun e w' => e = .returned (.int .i64 0) ∧ w.grownBy w' none) := fun g c w h => f_check _ z2 _ c 0 w h rfl (by omega) hC2
  have HE1 : Hid (∀ (g c : Nat) (w : World), SRd labE w (some ⟨g, 0, none⟩) z1 → Calls Try.prog 11 #[.slice (some ⟨g, 0, none⟩) z1.length c] w fun e w' => ∃ g c N, e = .returned (.slice (some ⟨g, 0, none⟩) N c) ∧ Own w' w.heap.size g N c X ∧ w.grownBy w' none) := fun g c w h => f_encode _ z1 _ c X w h rfl (by omega) (by have := enc_size hC1; omega) eX
  have HE2 : Hid (∀ (g c : Nat) (w : World), SRd labE w (some ⟨g, 0, none⟩) z2 → Calls Try.prog 11 #[.slice (some ⟨g, 0, none⟩) z2.length c] w fun e w' => ∃ g c N, e = .returned (.slice (some ⟨g, 0, none⟩) N c) ∧ Own w' w.heap.size g N c Y ∧ w.grownBy w' none) := fun g c w h => f_encode _ z2 _ c Y w h rfl (by omega) (by have := enc_size hC2; omega) eY
  have HT1 : Hid (∀ (g c : Nat) (w : World), SRd labE w (some ⟨g, 0, none⟩) z1 → Calls Try.prog 13 #[.slice (some ⟨g, 0, none⟩) z1.length c] w fun e w' => e = .returned (.string T) ∧ w.grownBy w' none) := fun g c w h => f_labtext _ z1 _ c T w h rfl (by omega) (value_size hC1) (by have := text_size hC1; omega) eT
  have HT2 : Hid (∀ (g c : Nat) (w : World), SRd labE w (some ⟨g, 0, none⟩) z2 → Calls Try.prog 13 #[.slice (some ⟨g, 0, none⟩) z2.length c] w fun e w' => e = .returned (.string U) ∧ w.grownBy w' none) := fun g c w h => f_labtext _ z2 _ c U w h rfl (by omega) (value_size hC2) (by have := text_size hC2; omega) eU
  have HB0 : Hid (∀ w, W.grownBy w none → Calls Try.prog 25 #[.slice a0 z0.length cap0] w fun e w' => ∃ g c, e = .returned (.slice (some ⟨g, 0, none⟩) z0.length c) ∧ Own w' w.heap.size g z0.length c z0 ∧ w.grownBy w' none) := fun w hg => copy_any a0 z0 cap0 w (r0.grown hg (by simp)) n0 (by omega)
  have HS12 : Hid (∀ w, W.grownBy w none → Calls Try.prog 26 #[.slice a1 z1.length cap1, .slice a2 z2.length cap2] w fun e w' => e = .returned (.bool S) ∧ w.grownBy w' none) := fun w hg => by
    have h := lsame a1 a2 z1 z2 _ _ cap1 cap2 w (r1.grown hg (by simp)) (r2.grown hg (by simp)) rfl rfl (by omega)
    rw [eS] at h
    exact h
  have HR1 : Hid (∀ w, W.grownBy w none → SRd labE w a1 z1) := fun w hg => r1.grown hg (by simp)
  have HR3 : Hid (∀ w, W.grownBy w none → Rd w a3 z3) := fun w hg => r3.grown hg (by simp)
  have HN3 : Hid (a3 = none → cap3 = 0) := n3
  obtain ⟨L0, e0⟩ : ∃ L, L = z0.length := ⟨_, rfl⟩
  obtain ⟨L1, e1⟩ : ∃ L, L = z1.length := ⟨_, rfl⟩
  obtain ⟨L2, e2⟩ : ∃ L, L = z2.length := ⟨_, rfl⟩
  obtain ⟨L3, e3⟩ : ∃ L, L = z3.length := ⟨_, rfl⟩
  have HL0 : Hid (z0.length = L0) := e0.symm
  have HL1 : Hid (z1.length = L1) := e1.symm
  have HL3 : Hid (z3.length = L3) := e3.symm
  rw [← e0] at HB0 HD hsz ⊢
  rw [← e1] at HP1 HC1 HE1 HT1 HS12 l1 ⊢
  rw [← e2] at HP2 HC2 HE2 HT2 HS12 l2 ⊢
  rw [← e3] at hsz ⊢
  clear r0 r1 r2 r3 n0 n1 n2 n3 e0 e1 e2 e3 eX eY eT eU eS hC1 hC2
  go_enter Try.func7, Try.ntmps7
  go_wp2_with fail
  refine (HP1.out W (World.grownBy.refl W none)).mono ?_
  rintro e w1 ⟨g1, c1, rfl, ho1, hg1⟩
  have HO1 : Hid (LOwn w1 W.heap.size g1 L1 c1 z1) := ho1
  have HGw1 : Hid (W.grownBy w1 none) := ((World.grownBy.refl W none)).trans hg1
  clear ho1 hg1
  go_wp2_with fail
  refine (HC1.out g1 c1 w1 HO1.out.rd).mono ?_
  rintro e w2 ⟨rfl, hg2⟩
  have HGw2 : Hid (W.grownBy w2 none) := HGw1.out.trans hg2
  clear hg2 HO1 HGw1
  go_wp2_with fail
  refine (HP2.out w2 HGw2.out).mono ?_
  rintro e w3 ⟨g1, c1, rfl, ho1, hg1⟩
  have HO1 : Hid (LOwn w3 w2.heap.size g1 L2 c1 z2) := ho1
  have HGw3 : Hid (W.grownBy w3 none) := (HGw2.out).trans hg1
  clear ho1 hg1
  go_wp2_with fail
  refine (HC2.out g1 c1 w3 HO1.out.rd).mono ?_
  rintro e w4 ⟨rfl, hg2⟩
  have HGw4 : Hid (W.grownBy w4 none) := HGw3.out.trans hg2
  clear hg2 HO1 HGw3
  go_wp2_with fail
  refine (HP1.out w4 HGw4.out).mono ?_
  rintro e w5 ⟨g5, c5, rfl, ho5, hg5⟩
  have HO5 : Hid (LOwn w5 w4.heap.size g5 L1 c5 z1) := ho5
  have HGw5 : Hid (W.grownBy w5 none) := HGw4.out.trans hg5
  clear ho5 hg5 HGw4
  go_wp2_with fail
  refine (HE1.out g5 c5 w5 HO5.out.rd).mono ?_
  rintro e w6 ⟨gx, cx, Nx, rfl, ho6, hg6⟩
  have HO6 : Hid (Own w6 w5.heap.size gx Nx cx X) := ho6
  have HLX : Hid (X.length = Nx) := ho6.len
  have hNx : Nx ≤ 6000 := by have := ho6.len; have := HXl.out; omega
  have hGX := ho6.ge
  have HGw6 : Hid (W.grownBy w6 none) := HGw5.out.trans hg6
  clear ho6 hg6 HO5 HGw5 HE1
  go_wp2_with fail
  refine (HB0.out w6 HGw6.out).mono ?_
  rintro e w7 ⟨g7, c7, rfl, ho7, hg7⟩
  have hG7 : W.grownBy w7 none := HGw6.out.trans hg7
  have ge7 := ho7.ge
  have hs6 := HGw6.out.size
  have hx7 : Own w7 w5.heap.size gx Nx cx X := HO6.out.kept hg7 (by simp)
  clear hg7 HGw6 HO6
  go_wp2_with (first | (at_builtin; refine wpList_append_rd rfl (.tmp 30) (.tmp 31) rfl w6.heap.size g7 L0 c7 z0 rfl ho7 (some ⟨gx, 0, none⟩) X Nx cx rfl HLX.out hx7.rd (by simp) (by omega) ?_; intro g8 c8 w8 ho8 hg8; have hG8 : W.grownBy w8 none := gb_trans hG7 hg8 (fun j hj => .inl (by simp at hj; omega)); have ge8 := ho8.ge; have hx8 := hx7.kept hg8 (by simp; omega)) | (at_builtin; refine wpList_append_rd rfl (.tmp 32) (.tmp 33) rfl w6.heap.size g8 (L0 + Nx) c8 (z0 ++ X) rfl ho8 a3 z3 L3 cap3 rfl HL3.out (HR3.out w8 hG8) HN3.out (by omega) ?_; intro g9 c9 w9 ho9 hg9))
  have HGw9 : Hid (W.grownBy w9 none) := gb_trans hG8 hg9 (fun j hj => .inl (by simp at hj; omega))
  have HO9 : Hid (Own w9 w6.heap.size g9 (L0 + Nx + L3) c9 (z0 ++ X ++ z3)) := ho9
  have HOX9 : Hid (Own w9 w5.heap.size gx Nx cx X) := hx8.kept hg9 (by simp; omega)
  have HZ9 : Hid (((L0 + Nx + L3 : Nat) : Int) ≤ 140737488355000) := by show _ ≤ _; omega
  have HLA : Hid ((z0 ++ X ++ z3).length = L0 + Nx + L3) := ho9.len
  clear ho9 ho8 ho7 hx7 hx8 hg9 hg8 hG8 hG7 ge7 ge8 hs6 hGX
  have hdd := HD.out
  rw [HLX.out] at hdd
  have HDD : Hid (decodeR (z0 ++ X ++ z3) (L0 : Int) = (z1, (L0 : Int) + (Nx : Int), 0)) := hdd
  clear hdd HD
  go_wp2_with fail
  refine (f_decode (some ⟨g9, 0, none⟩) (z0 ++ X ++ z3) _ c9 L0 z1 ((L0 : Int) + (Nx : Int)) 0 w9 HO9.out.rd HLA.out HO9.out.cap.1 HZ9.out HDD.out).mono ?_
  rintro e w10 ⟨vd, nd, cd, rfl, hod, hg10⟩
  have HOD : Hid (SRd labE w10 vd z1) := SOwn.rd hod
  have HLD : Hid (z1.length = nd) := SOwn.len hod
  have hnd : nd ≤ 16 := by have h1 := SOwn.len hod; have h2 := HL1.out; omega
  have HGw10 : Hid (W.grownBy w10 none) := HGw9.out.trans hg10
  have HOX10 : Hid (Own w10 w5.heap.size gx Nx cx X) := HOX9.out.kept hg10 (by simp)
  clear hod hg10 HOX9 HO9 HGw9
  go_wp2_with fail
  refine (HS12.out w10 HGw10.out).mono ?_
  rintro e w11 ⟨rfl, hg11⟩
  have HG1011 : Hid (w10.grownBy w11 none) := hg11
  clear hg11
  go_wp2_with fail
  refine (lsame vd a1 z1 z1 nd L1 cd cap1 w11 (HOD.out.grown HG1011.out (by simp)) (HR1.out w11 (HGw10.out.trans HG1011.out)) HLD.out HL1.out (by omega)).mono ?_
  rintro e w12 ⟨rfl, hg12⟩
  rw [show decide (z1 = z1) = true by simp]
  have HG1012 : Hid (w10.grownBy w12 none) := HG1011.out.trans hg12
  have HGw12 : Hid (W.grownBy w12 none) := HGw10.out.trans HG1012.out
  have HOX12 : Hid (Own w12 w5.heap.size gx Nx cx X) := HOX10.out.kept HG1012.out (by simp)
  clear hg12 HG1011 HG1012 HOX10 HGw10 HOD
  go_wp2_with fail
  refine (HP2.out w12 HGw12.out).mono ?_
  rintro e w13 ⟨g13, c13, rfl, ho13, hg13⟩
  have HO13 : Hid (LOwn w13 w12.heap.size g13 L2 c13 z2) := ho13
  have HG1213 : Hid (w12.grownBy w13 none) := hg13
  clear ho13 hg13
  go_wp2_with fail
  refine (HE2.out g13 c13 w13 HO13.out.rd).mono ?_
  rintro e w14 ⟨gy, cy, Ny, rfl, ho14, hg14⟩
  have HO14 : Hid (Own w14 w13.heap.size gy Ny cy Y) := ho14
  have HG1214 : Hid (w12.grownBy w14 none) := HG1213.out.trans hg14
  clear ho14 hg14 HO13 HG1213 HE2
  go_wp2_with fail
  refine (same_any (some ⟨gx, 0, none⟩) (some ⟨gy, 0, none⟩) X Y Nx Ny cx cy w14 (HOX12.out.kept HG1214.out (by simp)).rd HO14.out.rd HLX.out HO14.out.len (by omega)).mono ?_
  rintro e w15 ⟨rfl, hg15⟩
  rw [HXY.out]
  have HGw15 : Hid (W.grownBy w15 none) := (HGw12.out.trans HG1214.out).trans hg15
  clear hg15 HO14 HG1214 HOX12 HGw12
  go_wp2_with fail
  refine (HP1.out w15 HGw15.out).mono ?_
  rintro e w16 ⟨g16, c16, rfl, ho16, hg16⟩
  have HO16 : Hid (LOwn w16 w15.heap.size g16 L1 c16 z1) := ho16
  have HGw16 : Hid (W.grownBy w16 none) := HGw15.out.trans hg16
  clear ho16 hg16 HGw15
  go_wp2_with fail
  refine (HT1.out g16 c16 w16 HO16.out.rd).mono ?_
  rintro e w17 ⟨rfl, hg17⟩
  have HGw17 : Hid (W.grownBy w17 none) := HGw16.out.trans hg17
  clear hg17 HO16 HGw16
  go_wp2_with fail
  refine (HP2.out w17 HGw17.out).mono ?_
  rintro e w18 ⟨g18, c18, rfl, ho18, hg18⟩
  have HO18 : Hid (LOwn w18 w17.heap.size g18 L2 c18 z2) := ho18
  have HGw18 : Hid (W.grownBy w18 none) := HGw17.out.trans hg18
  clear ho18 hg18 HGw17
  go_wp2_with fail
  refine (HT2.out g18 c18 w18 HO18.out.rd).mono ?_
  rintro e w19 ⟨rfl, hg19⟩
  have HGw19 : Hid (W.grownBy w19 none) := HGw18.out.trans hg19
  clear hg19 HO18 HGw18
  go_wp2_with fail
  refine (awake_lab w19).mono ?_
  rintro e wz ⟨rfl, hgz⟩
  have HGz : Hid (W.grownBy wz none) := HGw19.out.trans hgz
  clear hgz
  go_wp2
  go_ret
  exact ⟨rfl, gb_below HGz.out⟩

theorem labelBack_walk (a0 : Option Addr) (z0 : List Int) (cap0 : Nat) (a1 : Option Addr) (z1 : List Lab) (cap1 : Nat) (a2 : Option Addr) (z2 : List Lab) (cap2 : Nat) (a3 : Option Addr) (z3 : List Int) (cap3 : Nat) (W : World)
    (r0 : Rd W a0 z0) (n0 : a0 = none → cap0 = 0) (r1 : SRd labE W a1 z1) (n1 : a1 = none → cap1 = 0) (l1 : z1.length ≤ 4398046510976) (r2 : SRd labE W a2 z2) (n2 : a2 = none → cap2 = 0) (l2 : z2.length ≤ 4398046510976) (r3 : Rd W a3 z3) (n3 : a3 = none → cap3 = 0) (hsz : z0.length + z3.length ≤ 140737488340000) :
    Calls Try.prog 7 #[.slice a0 z0.length cap0, .slice a1 z1.length cap1, .slice a2 z2.length cap2, .slice a3 z3.length cap3] W fun e w' => e = .returned (.bool true) ∧ Below W.heap.size W w' := by
  by_cases h1 : checkR z1 = 0
  · by_cases h2 : checkR z2 = 0
    · exact labelBack_good a0 z0 cap0 a1 z1 cap1 a2 z2 cap2 a3 z3 cap3 W r0 n0 r3 n3 hsz r1 n1 r2 n2 h1 h2
    · exact labelBack_not2 a0 z0 cap0 a1 z1 cap1 a2 z2 cap2 a3 z3 cap3 W r1 n1 l1 r2 n2 l2 h1 h2
  · exact labelBack_not1 a0 z0 cap0 a1 z1 cap1 a2 z2 cap2 a3 z3 cap3 W r1 n1 l1 h1
end Go.Proofs.Ytailaehpgmpaaaa
