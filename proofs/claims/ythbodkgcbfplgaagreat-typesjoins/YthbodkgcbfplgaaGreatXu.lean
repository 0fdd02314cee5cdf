/- TypesJoins: the walk. -/
import Derived.Test.YthbodkgcbfplgaaGreatXta
import Derived.Test.YthbodkgcbfplgaaGreatXtb
import Derived.Test.YthbodkgcbfplgaaGreatXtc
namespace Go.Proofs.YthbodkgcbfplgaaGreat
open Go.ChangeShapes Go.WideShapes Go.ChangeAt Go.RowKit
set_option linter.unusedVariables false
set_option linter.unusedSimpArgs false
set_option maxRecDepth 20000

set_option maxHeartbeats 16000000 in
theorem typesJoins_walk (a1 : Option Addr) (c1 : Nat) (Q1 : List Row) (a2 : Option Addr) (c2 : Nat) (Q2 : List Row) (op : Int) (w : World) (h1 : NsIn w a1 c1 Q1) (h2 : NsIn w a2 c2 Q2) :
    Calls Tryz.prog 6 #[.slice a1 Q1.length c1, .slice a2 Q2.length c2, .int .i64 op] w fun e w' => e = .returned (.bool true) ∧ w.grownBy w' none := by
  have HAW := hid f_awake
  have z1 := h1.le
  have z2 := h2.le
  simp only [reachBytes] at z1 z2
  have l1 : (Q1.map (·.1)).length = Q1.length := List.length_map _
  have l2 : (Q2.map (·.1)).length = Q2.length := List.length_map _
  obtain ⟨⟨x, i1, e1⟩, hC1⟩ : ∃ C, chkT (Q1.map (·.1)) = C := ⟨_, rfl⟩
  obtain ⟨⟨y, i2, e2⟩, hC2⟩ : ∃ C, chkT (Q2.map (·.1)) = C := ⟨_, rfl⟩
  have H1 := hid h1
  have H2 := hid h2
  have CP1 := hid (c_copy h1)
  have CP2 := hid (c_copy h2)
  have CK1 := hid (c_check (W0 := w) l1 (by omega) hC1)
  have CK2 := hid (c_check (W0 := w) l2 (by omega) hC2)
  have HT1 := hid (chk_tree hC1)
  have HT2 := hid (chk_tree hC2)
  have HJ := hid (fun (k : Int) he he2 hl hk => chk_join (k := k) hC1 he hC2 he2 hl hk)
  have HO := hid (fun he hl => chk_one hC1 he hl)
  have HCN : Hid (∀ (N : List Nd) (n : Nat), N.length = n → n ≤ 10000000000000 → ∀ k i e, chkT N = (k, i, e) → ∀ (V : World) (a : Option Addr) (c : Nat) (L : List Row), NsMk w V (.slice a n c) L → L.map (·.1) = N → Calls Tryz.prog 9 #[.slice a n c] V fun e9 w' => e9 = .returned (.tuple #[.int .i64 k, .int .i64 i, .int .i64 e]) ∧ V.grownBy w' none) :=
    fun N n hN hn k i e hC => c_check (W0 := w) hN hn hC
  obtain ⟨n1, en1⟩ : ∃ n, Q1.length = n := ⟨_, rfl⟩
  obtain ⟨n2, en2⟩ : ∃ n, Q2.length = n := ⟨_, rfl⟩
  have EN1 := hid en1
  have EN2 := hid en2
  have EL1 := hid l1
  have EL2 := hid l2
  rw [en1] at z1 CP1 CK1 l1 EL1 ⊢
  rw [en2] at z2 CP2 CK2 l2 EL2 ⊢
  rw [l1] at HJ HO
  rw [l2] at HJ
  by_cases he : e1 = 0
  · subst he
    by_cases he2 : e2 = 0
    · subst he2
      by_cases hs : 2000 < n1 + n2
      · have q1 : decide ((2000 : Int) < (n1 : Int) + (n2 : Int)) = true := by simp; omega
        have b0 : 0 ≤ (n1 : Int) := by omega
        have b1 : 0 ≤ (n2 : Int) := by omega
        have b2 : (n1 : Int) ≤ 1172812402961 := by omega
        have b3 : (n2 : Int) ≤ 1172812402961 := by omega
        clear hC1 hC2 h1 h2 en1 en2 l1 l2 hs
        go_enter Tryz.func6, Tryz.ntmps6
        go_wp2_with fail
        refine (CP1.out w (World.grownBy.refl _ _)).mono ?_
        rintro e w1 ⟨b1, d1, L1, rfl, M1, E1⟩
        have G1 := hid M1.out.up
        go_wp2_with fail
        refine (CK1.out _ _ _ L1 M1.out E1.out).mono ?_
        rintro e w2 ⟨rfl, g2⟩
        have G2 := hid (G1.out.trans g2)
        clear g2 M1 E1 G1
        go_wp2_with fail
        refine (CP2.out _ G2.out).mono ?_
        rintro e w3 ⟨b3, d3, L3, rfl, M3, E3⟩
        have G3 := hid M3.out.up
        go_wp2_with fail
        refine (CK2.out _ _ _ L3 M3.out E3.out).mono ?_
        rintro e w4 ⟨rfl, g4⟩
        have G4 := hid (G3.out.trans g4)
        clear g4 M3 E3 G3
        go_wp2_with fail
        refine (HAW.out _).mono ?_
        rintro e w9 ⟨rfl, g9⟩
        have G9 := hid (G4.out.trans g9)
        clear g9
        go_wp2
        go_ret
        exact ⟨rfl, G9.out⟩
      · obtain ⟨-, -, hx, -⟩ := HT1.out (by first | rfl | trivial)
        rcases hx with rfl | rfl | rfl
        · have h9 := joins_1 a1 c1 Q1 a2 c2 Q2 op w h1 h2 y i1 i2 hC1 hC2 (by rw [EN1.out, EN2.out]; omega); rw [EN1.out, EN2.out] at h9; exact h9
        · have h9 := joins_2 a1 c1 Q1 a2 c2 Q2 op w h1 h2 y i1 i2 hC1 hC2 (by rw [EN1.out, EN2.out]; omega); rw [EN1.out, EN2.out] at h9; exact h9
        · have h9 := joins_3 a1 c1 Q1 a2 c2 Q2 op w h1 h2 y i1 i2 hC1 hC2 (by rw [EN1.out, EN2.out]; omega); rw [EN1.out, EN2.out] at h9; exact h9
    · have q1 : (e2 != 0) = true := by simpa using he2
      clear hC1 hC2 h1 h2 en1 en2 l1 l2 he2
      go_enter Tryz.func6, Tryz.ntmps6
      go_wp2_with fail
      refine (CP1.out w (World.grownBy.refl _ _)).mono ?_
      rintro e w1 ⟨b1, d1, L1, rfl, M1, E1⟩
      have G1 := hid M1.out.up
      go_wp2_with fail
      refine (CK1.out _ _ _ L1 M1.out E1.out).mono ?_
      rintro e w2 ⟨rfl, g2⟩
      have G2 := hid (G1.out.trans g2)
      clear g2 M1 E1 G1
      go_wp2_with fail
      refine (CP2.out _ G2.out).mono ?_
      rintro e w3 ⟨b3, d3, L3, rfl, M3, E3⟩
      have G3 := hid M3.out.up
      go_wp2_with fail
      refine (CK2.out _ _ _ L3 M3.out E3.out).mono ?_
      rintro e w4 ⟨rfl, g4⟩
      have G4 := hid (G3.out.trans g4)
      clear g4 M3 E3 G3
      go_wp2_with fail
      refine (HAW.out _).mono ?_
      rintro e w9 ⟨rfl, g9⟩
      have G9 := hid (G4.out.trans g9)
      clear g9
      go_wp2
      go_ret
      exact ⟨rfl, G9.out⟩
  · have q1 : (e1 != 0) = true := by simpa using he
    clear hC1 hC2 h1 h2 en1 en2 l1 l2 he
    go_enter Tryz.func6, Tryz.ntmps6
    go_wp2_with fail
    refine (CP1.out w (World.grownBy.refl _ _)).mono ?_
    rintro e w1 ⟨b1, d1, L1, rfl, M1, E1⟩
    have G1 := hid M1.out.up
    go_wp2_with fail
    refine (CK1.out _ _ _ L1 M1.out E1.out).mono ?_
    rintro e w2 ⟨rfl, g2⟩
    have G2 := hid (G1.out.trans g2)
    clear g2 M1 E1 G1
    go_wp2_with fail
    refine (CP2.out _ G2.out).mono ?_
    rintro e w3 ⟨b3, d3, L3, rfl, M3, E3⟩
    have G3 := hid M3.out.up
    go_wp2_with fail
    refine (CK2.out _ _ _ L3 M3.out E3.out).mono ?_
    rintro e w4 ⟨rfl, g4⟩
    have G4 := hid (G3.out.trans g4)
    clear g4 M3 E3 G3
    go_wp2_with fail
    refine (HAW.out _).mono ?_
    rintro e w9 ⟨rfl, g9⟩
    have G9 := hid (G4.out.trans g9)
    clear g9
    go_wp2
    go_ret
    exact ⟨rfl, G9.out⟩
end Go.Proofs.YthbodkgcbfplgaaGreat
