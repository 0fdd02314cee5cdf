/- TypesJoins: the walk. -/
import Derived.Test.YthbodkgcbfplgaaGreatXt
namespace Go.Proofs.YthbodkgcbfplgaaGreat
open Go.ChangeShapes Go.WideShapes Go.ChangeAt Go.RowKit
set_option linter.unusedVariables false
set_option linter.unusedSimpArgs false
set_option maxRecDepth 20000

set_option maxHeartbeats 64000000 in
theorem joins_2 (a1 : Option Addr) (c1 : Nat) (Q1 : List Row) (a2 : Option Addr) (c2 : Nat) (Q2 : List Row) (op : Int) (w : World) (h1 : NsIn w a1 c1 Q1) (h2 : NsIn w a2 c2 Q2) (y i1 i2 : Int) (hC1 : chkT (Q1.map (·.1)) = (2, i1, 0)) (hC2 : chkT (Q2.map (·.1)) = (y, i2, 0)) (hl : Q1.length + Q2.length ≤ 2000) :
    Calls Tryz.prog 6 #[.slice a1 Q1.length c1, .slice a2 Q2.length c2, .int .i64 op] w fun e w' => e = .returned (.bool true) ∧ w.grownBy w' none := by
  have HAW := hid f_awake
  have z1 := h1.le
  have z2 := h2.le
  simp only [reachBytes] at z1 z2
  have l1 : (Q1.map (·.1)).length = Q1.length := List.length_map _
  have l2 : (Q2.map (·.1)).length = Q2.length := List.length_map _
  have H1 := hid h1
  have H2 := hid h2
  have CP1 := hid (c_copy h1)
  have CP2 := hid (c_copy h2)
  have CK1 := hid (c_check (W0 := w) l1 (by omega) hC1)
  have CK2 := hid (c_check (W0 := w) l2 (by omega) hC2)
  have HT1 := hid (chk_tree hC1)
  have HT2 := hid (chk_tree hC2)
  have HJ := hid (fun (k : Int) he he2 hl hk => chk_join (k := k) hC1 he hC2 he2 hl hk)
  have HO := hid (fun he hl => chk_one hC1 he hl)
  have HCN : Hid (∀ (N : List Nd) (n : Nat), N.length = n → n ≤ 10000000000000 → ∀ k i e, chkT N = (k, i, e) → ∀ (V : World) (a : Option Addr) (c : Nat) (L : List Row), NsMk w V (.slice a n c) L → L.map (·.1) = N → Calls Tryz.prog 9 #[.slice a n c] V fun e9 w' => e9 = .returned (.tuple #[.int .i64 k, .int .i64 i, .int .i64 e]) ∧ V.grownBy w' none) :=
    fun N n hN hn k i e hC => c_check (W0 := w) hN hn hC
  obtain ⟨n1, en1⟩ : ∃ n, Q1.length = n := ⟨_, rfl⟩
  obtain ⟨n2, en2⟩ : ∃ n, Q2.length = n := ⟨_, rfl⟩
  have EN1 := hid en1
  have EN2 := hid en2
  have EL1 := hid l1
  have EL2 := hid l2
  rw [en1] at z1 CP1 CK1 l1 EL1 ⊢
  rw [en2] at z2 CP2 CK2 l2 EL2 ⊢
  rw [l1] at HJ HO
  rw [l2] at HJ
  rw [EN1.out, EN2.out] at hl
  clear hC1 hC2 h1 h2 en1 en2 l1 l2
  obtain ⟨-, -, hy, -⟩ := HT2.out (by first | rfl | trivial)
  obtain ⟨ki, hki, hkr⟩ : ∃ k : Nat, k < 13 ∧ (bits .and .i64 op 9223372036854775807).tmod 13 = (k : Int) := low_rem op 13 (by decide)
  have HY := hid hy
  have HLO := hid (r_low op)
  have HAL := and_low op
  have hb0 : (0 : Int) ≤ (ki : Int) := by omega
  have hb1 : (ki : Int) < 13 := by omega
  have b0 : 0 ≤ (n1 : Int) := by omega
  have b1 : 0 ≤ (n2 : Int) := by omega
  have b2 : (n1 : Int) + (n2 : Int) ≤ 2000 := by omega
  have hr5 : IntKind.i64.wrap (1 + (ki : Int)) = 1 + (ki : Int) := by
    simp [IntKind.wrap, IntKind.bits, IntKind.signed]
    omega
  clear hy
  have q1 : decide ((2000 : Int) < (n1 : Int) + (n2 : Int)) = false := by simp; omega
  go_enter Tryz.func6, Tryz.ntmps6
  go_wp2_with fail
  refine (CP1.out w (World.grownBy.refl _ _)).mono ?_
  rintro e w1 ⟨b1, d1, L1, rfl, M1, E1⟩
  have G1 := hid M1.out.up
  go_wp2_with fail
  refine (CK1.out _ _ _ L1 M1.out E1.out).mono ?_
  rintro e w2 ⟨rfl, g2⟩
  have G2 := hid (G1.out.trans g2)
  clear g2 M1 E1 G1
  go_wp2_with fail
  refine (CP2.out _ G2.out).mono ?_
  rintro e w3 ⟨b3, d3, L3, rfl, M3, E3⟩
  have G3 := hid M3.out.up
  go_wp2_with fail
  refine (CK2.out _ _ _ L3 M3.out E3.out).mono ?_
  rintro e w4 ⟨rfl, g4⟩
  have G4 := hid (G3.out.trans g4)
  clear g4 M3 E3 G3
  go_wp2_with fail
  refine (HLO.out _).mono ?_
  rintro e w5 ⟨rfl, rfl⟩
  go_upto_region 6 with fail
  clear hr5 hkr HAL HLO
  have hk : 1 ≤ 1 + (ki : Int) ∧ 1 + (ki : Int) ≤ 13 := by omega
  clear hb0 hb1 hki
  generalize (1 + (ki : Int)) = k at *
  obtain ⟨n3, hz⟩ := HJ.out k (by first | rfl | trivial) (by first | rfl | trivial) (by omega) hk
  obtain ⟨⟨zA, nA, hA⟩, ⟨zB, nB, hB⟩, zC, nC, hC, hzC⟩ := HO.out (by first | rfl | trivial) (by omega)
  try simp only [↓reduceIte, Int.reduceEq, if_true, if_false] at hA
  try simp only [↓reduceIte, Int.reduceEq, if_true, if_false] at hB
  try simp only [↓reduceIte, Int.reduceEq, if_true, if_false] at hC
  obtain ⟨⟨z, n4, g⟩, hZ⟩ : ∃ C, chkT (Q1.map (·.1) ++ Q2.map (·.1) ++ [binN k false 0 []]) = C := ⟨_, rfl⟩
  rw [hZ] at hz
  have HZ := hid hZ
  have HZ2 := hid hz
  have HA := hid hA
  have HB := hid hB
  have HC := hid hC
  have HZC := hid hzC
  have HK := hid hk
  clear hz hZ hA hB hC hzC hk
  go_wp2_with fail
  refine (CP1.out _ G4.out).mono ?_
  rintro e w6 ⟨b6, d6, L6, rfl, M6, E6⟩
  have LL6 : Hid (L6.length = n1) := M6.out.rds.2.symm
  have HO6 : Hid (SOwn ndE 37 w6 w.heap.size (.slice b6 n1 d6) n1 L6) := by
    have := M6.out.own
    rw [LL6.out] at this
    exact this
  have HIN : Hid (NsIn w6 a2 c2 Q2) := H2.out.grown M6.out.up
  have HB6 : w.heap.size ≤ w6.heap.size := M6.out.up.size
  go_wp2_with (at_builtin; refine wpList_append_s ndT (by rfl) (.tmp 65) (.tmp 66) (by rfl) w.heap.size (.slice b6 n1 d6) n1 L6 (by rfl) ?hown a2 Q2 n2 c2 (by rfl) EN2.out ?hrd HIN.out.nil (by omega) (by unfold maxLen; omega) ?hb ?_)
  case hown => exact HO6.out
  case hrd => exact HIN.out.rd
  case hb => exact HB6
  intro v6 v6w ho6 hg6 hn6
  have MB6 : NsMk w v6w v6 (L6 ++ Q2) := M6.out.app (fun q hq => .inl (H2.out.each q hq).rd) (by rw [LL6.out, EN2.out]; exact ho6) hg6
  have EB6 : Hid ((L6 ++ Q2).map (·.1) = Q1.map (·.1) ++ Q2.map (·.1)) := by show _ = _; rw [List.map_append, E6.out]
  have LB6 : Hid ((L6 ++ Q2).length = n1 + n2) := by show _ = _; rw [List.length_append, LL6.out, EN2.out]
  obtain ⟨ba6, da6, hv6⟩ := MB6.slN LB6.out
  subst hv6
  have MB6 := hid MB6
  clear ho6 hg6 hn6 HO6 HIN M6 E6 HB6
  generalize L6 ++ Q2 = L7 at *
  have MA7 : Hid (NsMk w (v6w.alloc (.cells #[.int .i64 6, .int .i64 k, .string ⟨#[]⟩, .slice none 0 0, .int .i64 0, .int .i64 0, .int .i64 0, .slice none 0 0, .bool false, .int .i64 2] 37)) (.slice ba6 (n1 + n2) da6) L7) := MB6.out.grown (World.grownBy_alloc _ _ none)
  have HO7 : Hid (SOwn ndE 37 (v6w.alloc (.cells #[.int .i64 6, .int .i64 k, .string ⟨#[]⟩, .slice none 0 0, .int .i64 0, .int .i64 0, .int .i64 0, .slice none 0 0, .bool false, .int .i64 2] 37)) w.heap.size (.slice ba6 (n1 + n2) da6) (n1 + n2) L7) := by
    have := MA7.out.own
    rw [LB6.out] at this
    exact this
  have HL7 : Hid (SRd ndE (v6w.alloc (.cells #[.int .i64 6, .int .i64 k, .string ⟨#[]⟩, .slice none 0 0, .int .i64 0, .int .i64 0, .int .i64 0, .slice none 0 0, .bool false, .int .i64 2] 37)) (some ⟨v6w.heap.size, 0, none⟩) [(binN k false 0 [], (none, 0, 0), (none, 0, 0))]) := lit_rd ndE v6w 37 [(binN k false 0 [], (none, 0, 0), (none, 0, 0))]
  go_wp2_with (at_builtin; refine wpList_append_s ndT (by rfl) (.tmp 67) (.tmp 70) (by rfl) w.heap.size (.slice ba6 (n1 + n2) da6) (n1 + n2) L7 (by rfl) ?hown (some ⟨v6w.heap.size, 0, none⟩) [(binN k false 0 [], (none, 0, 0), (none, 0, 0))] 1 1 (by rfl) (by rfl) ?hrd (by simp) (by omega) (by unfold maxLen; omega) ?hb ?_)
  case hown => exact HO7.out
  case hrd => exact HL7.out
  case hb => first | exact MA7.out.up.size | (have h9 := MA7.out.up.size; rw [size_alloc] at h9; exact h9)
  intro v7 v7w ho7 hg7 hn7
  have MB7 : NsMk w v7w v7 (L7 ++ [(binN k false 0 [], (none, 0, 0), (none, 0, 0))]) := MA7.out.one rfl rfl (by rw [LB6.out]; exact ho7) hg7
  have EB7 : Hid ((L7 ++ [(binN k false 0 [], (none, 0, 0), (none, 0, 0))] : List Row).map (·.1) = Q1.map (·.1) ++ Q2.map (·.1) ++ [binN k false 0 []]) := by show _ = _; rw [List.map_append, EB6.out]; rfl
  obtain ⟨ba7, da7, hv7⟩ := MB7.slN (n := n1 + n2 + 1) (by rw [List.length_append, LB6.out]; rfl)
  subst hv7
  have MB7 := hid MB7
  have GB7 := hid MB7.out.up
  clear ho7 hg7 hn7 HO7 HL7 MA7 MB6 EB6
  go_wp2_with fail
  refine (HCN.out _ (n1 + n2 + 1) (by rw [List.length_append, List.length_append, EL1.out, EL2.out]; rfl) (by omega) _ _ _ HZ.out _ _ _ _ MB7.out EB7.out).mono ?_
  rintro e w8 ⟨rfl, g8⟩
  have G8 := hid (GB7.out.trans g8)
  clear g8 MB7 EB7 GB7 LL6 LB6
  have hy := HY.out
  rcases hy with rfl | rfl | rfl
  · by_cases h4 : k ≤ 4
    · have p5 : decide (5 ≤ k) = false := by simp; omega
      have p10 : decide (k ≤ 10) = true := by simp; omega
      have p11 : decide (k < 11) = true := by simp; omega
      have hj : jnB 2 1 k = true := by unfold jnB; rw [p5, p10, p11]; rfl
      obtain ⟨rfl, rfl, rfl⟩ : z = 2 ∧ n4 = 0 ∧ g = 0 := by
        have := HZ2.out
        rw [hj] at this
        simpa using this
      obtain rfl : zC = 2 := by
        rcases HZC.out with h9 | h9
        · exact absurd h9 (by decide)
        · exact h9
      clear hj
      go_wp2_with fail
      refine (CP1.out _ G8.out).mono ?_
      rintro e w10 ⟨b10, d10, L10, rfl, M10, E10⟩
      have LL10 : Hid (L10.length = n1) := M10.out.rds.2.symm
      have MA10 : Hid (NsMk w (w10.alloc (.cells #[.int .i64 5, .int .i64 1, .string ⟨#[]⟩, .slice none 0 0, .int .i64 0, .int .i64 0, .int .i64 0, .slice none 0 0, .bool false, .int .i64 1] 37)) (.slice b10 n1 d10) L10) := M10.out.grown (World.grownBy_alloc _ _ none)
      have HO10 : Hid (SOwn ndE 37 (w10.alloc (.cells #[.int .i64 5, .int .i64 1, .string ⟨#[]⟩, .slice none 0 0, .int .i64 0, .int .i64 0, .int .i64 0, .slice none 0 0, .bool false, .int .i64 1] 37)) w.heap.size (.slice b10 n1 d10) n1 L10) := by
        have := MA10.out.own
        rw [LL10.out] at this
        exact this
      have HL10 : Hid (SRd ndE (w10.alloc (.cells #[.int .i64 5, .int .i64 1, .string ⟨#[]⟩, .slice none 0 0, .int .i64 0, .int .i64 0, .int .i64 0, .slice none 0 0, .bool false, .int .i64 1] 37)) (some ⟨w10.heap.size, 0, none⟩) [(aggN 1 0 [], (none, 0, 0), (none, 0, 0))]) := lit_rd ndE w10 37 [(aggN 1 0 [], (none, 0, 0), (none, 0, 0))]
      go_wp2_with (at_builtin; refine wpList_append_s ndT (by rfl) (.tmp 143) (.tmp 145) (by rfl) w.heap.size (.slice b10 n1 d10) n1 L10 (by rfl) ?hown (some ⟨w10.heap.size, 0, none⟩) [(aggN 1 0 [], (none, 0, 0), (none, 0, 0))] 1 1 (by rfl) (by rfl) ?hrd (by simp) (by omega) (by unfold maxLen; omega) ?hb ?_)
      case hown => exact HO10.out
      case hrd => exact HL10.out
      case hb => first | exact MA10.out.up.size | (have h9 := MA10.out.up.size; rw [size_alloc] at h9; exact h9)
      intro v10 v10w ho10 hg10 hn10
      have MB10 : NsMk w v10w v10 (L10 ++ [(aggN 1 0 [], (none, 0, 0), (none, 0, 0))]) := MA10.out.one rfl rfl (by rw [LL10.out]; exact ho10) hg10
      have EB10 : Hid ((L10 ++ [(aggN 1 0 [], (none, 0, 0), (none, 0, 0))] : List Row).map (·.1) = Q1.map (·.1) ++ [aggN 1 0 []]) := by show _ = _; rw [List.map_append, E10.out]; rfl
      obtain ⟨ba10, da10, hv10⟩ := MB10.slN (n := n1 + 1) (by rw [List.length_append, LL10.out]; rfl)
      subst hv10
      have MB10 := hid MB10
      have GB10 := hid MB10.out.up
      clear ho10 hg10 hn10 HO10 HL10 MA10 M10 E10
      go_wp2_with fail
      refine (HCN.out _ (n1 + 1) (by rw [List.length_append, EL1.out]; rfl) (by omega) _ _ _ HA.out _ _ _ _ MB10.out EB10.out).mono ?_
      rintro e w11 ⟨rfl, g11⟩
      have G11 := hid (GB10.out.trans g11)
      clear g11 MB10 EB10 GB10 LL10
      go_wp2_with fail
      refine (CP1.out _ G11.out).mono ?_
      rintro e w12 ⟨b12, d12, L12, rfl, M12, E12⟩
      have LL12 : Hid (L12.length = n1) := M12.out.rds.2.symm
      have MA12 : Hid (NsMk w (w12.alloc (.cells #[.int .i64 4, .int .i64 1, .string ⟨#[]⟩, .slice none 0 0, .int .i64 0, .int .i64 0, .int .i64 0, .slice none 0 0, .bool false, .int .i64 1] 37)) (.slice b12 n1 d12) L12) := M12.out.grown (World.grownBy_alloc _ _ none)
      have HO12 : Hid (SOwn ndE 37 (w12.alloc (.cells #[.int .i64 4, .int .i64 1, .string ⟨#[]⟩, .slice none 0 0, .int .i64 0, .int .i64 0, .int .i64 0, .slice none 0 0, .bool false, .int .i64 1] 37)) w.heap.size (.slice b12 n1 d12) n1 L12) := by
        have := MA12.out.own
        rw [LL12.out] at this
        exact this
      have HL12 : Hid (SRd ndE (w12.alloc (.cells #[.int .i64 4, .int .i64 1, .string ⟨#[]⟩, .slice none 0 0, .int .i64 0, .int .i64 0, .int .i64 0, .slice none 0 0, .bool false, .int .i64 1] 37)) (some ⟨w12.heap.size, 0, none⟩) [(callN 1, (none, 0, 0), (none, 0, 0))]) := lit_rd ndE w12 37 [(callN 1, (none, 0, 0), (none, 0, 0))]
      go_wp2_with (at_builtin; refine wpList_append_s ndT (by rfl) (.tmp 153) (.tmp 155) (by rfl) w.heap.size (.slice b12 n1 d12) n1 L12 (by rfl) ?hown (some ⟨w12.heap.size, 0, none⟩) [(callN 1, (none, 0, 0), (none, 0, 0))] 1 1 (by rfl) (by rfl) ?hrd (by simp) (by omega) (by unfold maxLen; omega) ?hb ?_)
      case hown => exact HO12.out
      case hrd => exact HL12.out
      case hb => first | exact MA12.out.up.size | (have h9 := MA12.out.up.size; rw [size_alloc] at h9; exact h9)
      intro v12 v12w ho12 hg12 hn12
      have MB12 : NsMk w v12w v12 (L12 ++ [(callN 1, (none, 0, 0), (none, 0, 0))]) := MA12.out.one rfl rfl (by rw [LL12.out]; exact ho12) hg12
      have EB12 : Hid ((L12 ++ [(callN 1, (none, 0, 0), (none, 0, 0))] : List Row).map (·.1) = Q1.map (·.1) ++ [callN 1]) := by show _ = _; rw [List.map_append, E12.out]; rfl
      obtain ⟨ba12, da12, hv12⟩ := MB12.slN (n := n1 + 1) (by rw [List.length_append, LL12.out]; rfl)
      subst hv12
      have MB12 := hid MB12
      have GB12 := hid MB12.out.up
      clear ho12 hg12 hn12 HO12 HL12 MA12 M12 E12
      go_wp2_with fail
      refine (HCN.out _ (n1 + 1) (by rw [List.length_append, EL1.out]; rfl) (by omega) _ _ _ HB.out _ _ _ _ MB12.out EB12.out).mono ?_
      rintro e w13 ⟨rfl, g13⟩
      have G13 := hid (GB12.out.trans g13)
      clear g13 MB12 EB12 GB12 LL12
      go_wp2_with fail
      refine (CP1.out _ G13.out).mono ?_
      rintro e w14 ⟨b14, d14, L14, rfl, M14, E14⟩
      have LL14 : Hid (L14.length = n1) := M14.out.rds.2.symm
      have MA14 : Hid (NsMk w (w14.alloc (.cells #[.int .i64 7, .int .i64 0, .string ⟨#[]⟩, .slice none 0 0, .int .i64 0, .int .i64 0, .int .i64 0, .slice none 0 0, .bool false, .int .i64 1] 37)) (.slice b14 n1 d14) L14) := M14.out.grown (World.grownBy_alloc _ _ none)
      have HO14 : Hid (SOwn ndE 37 (w14.alloc (.cells #[.int .i64 7, .int .i64 0, .string ⟨#[]⟩, .slice none 0 0, .int .i64 0, .int .i64 0, .int .i64 0, .slice none 0 0, .bool false, .int .i64 1] 37)) w.heap.size (.slice b14 n1 d14) n1 L14) := by
        have := MA14.out.own
        rw [LL14.out] at this
        exact this
      have HL14 : Hid (SRd ndE (w14.alloc (.cells #[.int .i64 7, .int .i64 0, .string ⟨#[]⟩, .slice none 0 0, .int .i64 0, .int .i64 0, .int .i64 0, .slice none 0 0, .bool false, .int .i64 1] 37)) (some ⟨w14.heap.size, 0, none⟩) [(negN, (none, 0, 0), (none, 0, 0))]) := lit_rd ndE w14 37 [(negN, (none, 0, 0), (none, 0, 0))]
      go_wp2_with (at_builtin; refine wpList_append_s ndT (by rfl) (.tmp 163) (.tmp 165) (by rfl) w.heap.size (.slice b14 n1 d14) n1 L14 (by rfl) ?hown (some ⟨w14.heap.size, 0, none⟩) [(negN, (none, 0, 0), (none, 0, 0))] 1 1 (by rfl) (by rfl) ?hrd (by simp) (by omega) (by unfold maxLen; omega) ?hb ?_)
      case hown => exact HO14.out
      case hrd => exact HL14.out
      case hb => first | exact MA14.out.up.size | (have h9 := MA14.out.up.size; rw [size_alloc] at h9; exact h9)
      intro v14 v14w ho14 hg14 hn14
      have MB14 : NsMk w v14w v14 (L14 ++ [(negN, (none, 0, 0), (none, 0, 0))]) := MA14.out.one rfl rfl (by rw [LL14.out]; exact ho14) hg14
      have EB14 : Hid ((L14 ++ [(negN, (none, 0, 0), (none, 0, 0))] : List Row).map (·.1) = Q1.map (·.1) ++ [negN]) := by show _ = _; rw [List.map_append, E14.out]; rfl
      obtain ⟨ba14, da14, hv14⟩ := MB14.slN (n := n1 + 1) (by rw [List.length_append, LL14.out]; rfl)
      subst hv14
      have MB14 := hid MB14
      have GB14 := hid MB14.out.up
      clear ho14 hg14 hn14 HO14 HL14 MA14 M14 E14
      go_wp2_with fail
      refine (HCN.out _ (n1 + 1) (by rw [List.length_append, EL1.out]; rfl) (by omega) _ _ _ HC.out _ _ _ _ MB14.out EB14.out).mono ?_
      rintro e w15 ⟨rfl, g15⟩
      have G15 := hid (GB14.out.trans g15)
      clear g15 MB14 EB14 GB14 LL14
      go_wp2_with fail
      refine (HAW.out _).mono ?_
      rintro e w9 ⟨rfl, g9⟩
      have G9 := hid (G15.out.trans g9)
      clear g9
      go_wp2
      go_ret
      exact ⟨rfl, G9.out⟩
    · by_cases h10 : k ≤ 10
      · have p5 : decide (5 ≤ k) = true := by simp; omega
        have p10 : decide (k ≤ 10) = true := by simp; omega
        have p11 : decide (k < 11) = true := by simp; omega
        have hj : jnB 2 1 k = true := by unfold jnB; rw [p5, p10, p11]; rfl
        obtain ⟨rfl, rfl, rfl⟩ : z = 2 ∧ n4 = 0 ∧ g = 0 := by
          have := HZ2.out
          rw [hj] at this
          simpa using this
        obtain rfl : zC = 2 := by
          rcases HZC.out with h9 | h9
          · exact absurd h9 (by decide)
          · exact h9
        clear hj
        go_wp2_with fail
        refine (CP1.out _ G8.out).mono ?_
        rintro e w10 ⟨b10, d10, L10, rfl, M10, E10⟩
        have LL10 : Hid (L10.length = n1) := M10.out.rds.2.symm
        have MA10 : Hid (NsMk w (w10.alloc (.cells #[.int .i64 5, .int .i64 1, .string ⟨#[]⟩, .slice none 0 0, .int .i64 0, .int .i64 0, .int .i64 0, .slice none 0 0, .bool false, .int .i64 1] 37)) (.slice b10 n1 d10) L10) := M10.out.grown (World.grownBy_alloc _ _ none)
        have HO10 : Hid (SOwn ndE 37 (w10.alloc (.cells #[.int .i64 5, .int .i64 1, .string ⟨#[]⟩, .slice none 0 0, .int .i64 0, .int .i64 0, .int .i64 0, .slice none 0 0, .bool false, .int .i64 1] 37)) w.heap.size (.slice b10 n1 d10) n1 L10) := by
          have := MA10.out.own
          rw [LL10.out] at this
          exact this
        have HL10 : Hid (SRd ndE (w10.alloc (.cells #[.int .i64 5, .int .i64 1, .string ⟨#[]⟩, .slice none 0 0, .int .i64 0, .int .i64 0, .int .i64 0, .slice none 0 0, .bool false, .int .i64 1] 37)) (some ⟨w10.heap.size, 0, none⟩) [(aggN 1 0 [], (none, 0, 0), (none, 0, 0))]) := lit_rd ndE w10 37 [(aggN 1 0 [], (none, 0, 0), (none, 0, 0))]
        go_wp2_with (at_builtin; refine wpList_append_s ndT (by rfl) (.tmp 143) (.tmp 145) (by rfl) w.heap.size (.slice b10 n1 d10) n1 L10 (by rfl) ?hown (some ⟨w10.heap.size, 0, none⟩) [(aggN 1 0 [], (none, 0, 0), (none, 0, 0))] 1 1 (by rfl) (by rfl) ?hrd (by simp) (by omega) (by unfold maxLen; omega) ?hb ?_)
        case hown => exact HO10.out
        case hrd => exact HL10.out
        case hb => first | exact MA10.out.up.size | (have h9 := MA10.out.up.size; rw [size_alloc] at h9; exact h9)
        intro v10 v10w ho10 hg10 hn10
        have MB10 : NsMk w v10w v10 (L10 ++ [(aggN 1 0 [], (none, 0, 0), (none, 0, 0))]) := MA10.out.one rfl rfl (by rw [LL10.out]; exact ho10) hg10
        have EB10 : Hid ((L10 ++ [(aggN 1 0 [], (none, 0, 0), (none, 0, 0))] : List Row).map (·.1) = Q1.map (·.1) ++ [aggN 1 0 []]) := by show _ = _; rw [List.map_append, E10.out]; rfl
        obtain ⟨ba10, da10, hv10⟩ := MB10.slN (n := n1 + 1) (by rw [List.length_append, LL10.out]; rfl)
        subst hv10
        have MB10 := hid MB10
        have GB10 := hid MB10.out.up
        clear ho10 hg10 hn10 HO10 HL10 MA10 M10 E10
        go_wp2_with fail
        refine (HCN.out _ (n1 + 1) (by rw [List.length_append, EL1.out]; rfl) (by omega) _ _ _ HA.out _ _ _ _ MB10.out EB10.out).mono ?_
        rintro e w11 ⟨rfl, g11⟩
        have G11 := hid (GB10.out.trans g11)
        clear g11 MB10 EB10 GB10 LL10
        go_wp2_with fail
        refine (CP1.out _ G11.out).mono ?_
        rintro e w12 ⟨b12, d12, L12, rfl, M12, E12⟩
        have LL12 : Hid (L12.length = n1) := M12.out.rds.2.symm
        have MA12 : Hid (NsMk w (w12.alloc (.cells #[.int .i64 4, .int .i64 1, .string ⟨#[]⟩, .slice none 0 0, .int .i64 0, .int .i64 0, .int .i64 0, .slice none 0 0, .bool false, .int .i64 1] 37)) (.slice b12 n1 d12) L12) := M12.out.grown (World.grownBy_alloc _ _ none)
        have HO12 : Hid (SOwn ndE 37 (w12.alloc (.cells #[.int .i64 4, .int .i64 1, .string ⟨#[]⟩, .slice none 0 0, .int .i64 0, .int .i64 0, .int .i64 0, .slice none 0 0, .bool false, .int .i64 1] 37)) w.heap.size (.slice b12 n1 d12) n1 L12) := by
          have := MA12.out.own
          rw [LL12.out] at this
          exact this
        have HL12 : Hid (SRd ndE (w12.alloc (.cells #[.int .i64 4, .int .i64 1, .string ⟨#[]⟩, .slice none 0 0, .int .i64 0, .int .i64 0, .int .i64 0, .slice none 0 0, .bool false, .int .i64 1] 37)) (some ⟨w12.heap.size, 0, none⟩) [(callN 1, (none, 0, 0), (none, 0, 0))]) := lit_rd ndE w12 37 [(callN 1, (none, 0, 0), (none, 0, 0))]
        go_wp2_with (at_builtin; refine wpList_append_s ndT (by rfl) (.tmp 153) (.tmp 155) (by rfl) w.heap.size (.slice b12 n1 d12) n1 L12 (by rfl) ?hown (some ⟨w12.heap.size, 0, none⟩) [(callN 1, (none, 0, 0), (none, 0, 0))] 1 1 (by rfl) (by rfl) ?hrd (by simp) (by omega) (by unfold maxLen; omega) ?hb ?_)
        case hown => exact HO12.out
        case hrd => exact HL12.out
        case hb => first | exact MA12.out.up.size | (have h9 := MA12.out.up.size; rw [size_alloc] at h9; exact h9)
        intro v12 v12w ho12 hg12 hn12
        have MB12 : NsMk w v12w v12 (L12 ++ [(callN 1, (none, 0, 0), (none, 0, 0))]) := MA12.out.one rfl rfl (by rw [LL12.out]; exact ho12) hg12
        have EB12 : Hid ((L12 ++ [(callN 1, (none, 0, 0), (none, 0, 0))] : List Row).map (·.1) = Q1.map (·.1) ++ [callN 1]) := by show _ = _; rw [List.map_append, E12.out]; rfl
        obtain ⟨ba12, da12, hv12⟩ := MB12.slN (n := n1 + 1) (by rw [List.length_append, LL12.out]; rfl)
        subst hv12
        have MB12 := hid MB12
        have GB12 := hid MB12.out.up
        clear ho12 hg12 hn12 HO12 HL12 MA12 M12 E12
        go_wp2_with fail
        refine (HCN.out _ (n1 + 1) (by rw [List.length_append, EL1.out]; rfl) (by omega) _ _ _ HB.out _ _ _ _ MB12.out EB12.out).mono ?_
        rintro e w13 ⟨rfl, g13⟩
        have G13 := hid (GB12.out.trans g13)
        clear g13 MB12 EB12 GB12 LL12
        go_wp2_with fail
        refine (CP1.out _ G13.out).mono ?_
        rintro e w14 ⟨b14, d14, L14, rfl, M14, E14⟩
        have LL14 : Hid (L14.length = n1) := M14.out.rds.2.symm
        have MA14 : Hid (NsMk w (w14.alloc (.cells #[.int .i64 7, .int .i64 0, .string ⟨#[]⟩, .slice none 0 0, .int .i64 0, .int .i64 0, .int .i64 0, .slice none 0 0, .bool false, .int .i64 1] 37)) (.slice b14 n1 d14) L14) := M14.out.grown (World.grownBy_alloc _ _ none)
        have HO14 : Hid (SOwn ndE 37 (w14.alloc (.cells #[.int .i64 7, .int .i64 0, .string ⟨#[]⟩, .slice none 0 0, .int .i64 0, .int .i64 0, .int .i64 0, .slice none 0 0, .bool false, .int .i64 1] 37)) w.heap.size (.slice b14 n1 d14) n1 L14) := by
          have := MA14.out.own
          rw [LL14.out] at this
          exact this
        have HL14 : Hid (SRd ndE (w14.alloc (.cells #[.int .i64 7, .int .i64 0, .string ⟨#[]⟩, .slice none 0 0, .int .i64 0, .int .i64 0, .int .i64 0, .slice none 0 0, .bool false, .int .i64 1] 37)) (some ⟨w14.heap.size, 0, none⟩) [(negN, (none, 0, 0), (none, 0, 0))]) := lit_rd ndE w14 37 [(negN, (none, 0, 0), (none, 0, 0))]
        go_wp2_with (at_builtin; refine wpList_append_s ndT (by rfl) (.tmp 163) (.tmp 165) (by rfl) w.heap.size (.slice b14 n1 d14) n1 L14 (by rfl) ?hown (some ⟨w14.heap.size, 0, none⟩) [(negN, (none, 0, 0), (none, 0, 0))] 1 1 (by rfl) (by rfl) ?hrd (by simp) (by omega) (by unfold maxLen; omega) ?hb ?_)
        case hown => exact HO14.out
        case hrd => exact HL14.out
        case hb => first | exact MA14.out.up.size | (have h9 := MA14.out.up.size; rw [size_alloc] at h9; exact h9)
        intro v14 v14w ho14 hg14 hn14
        have MB14 : NsMk w v14w v14 (L14 ++ [(negN, (none, 0, 0), (none, 0, 0))]) := MA14.out.one rfl rfl (by rw [LL14.out]; exact ho14) hg14
        have EB14 : Hid ((L14 ++ [(negN, (none, 0, 0), (none, 0, 0))] : List Row).map (·.1) = Q1.map (·.1) ++ [negN]) := by show _ = _; rw [List.map_append, E14.out]; rfl
        obtain ⟨ba14, da14, hv14⟩ := MB14.slN (n := n1 + 1) (by rw [List.length_append, LL14.out]; rfl)
        subst hv14
        have MB14 := hid MB14
        have GB14 := hid MB14.out.up
        clear ho14 hg14 hn14 HO14 HL14 MA14 M14 E14
        go_wp2_with fail
        refine (HCN.out _ (n1 + 1) (by rw [List.length_append, EL1.out]; rfl) (by omega) _ _ _ HC.out _ _ _ _ MB14.out EB14.out).mono ?_
        rintro e w15 ⟨rfl, g15⟩
        have G15 := hid (GB14.out.trans g15)
        clear g15 MB14 EB14 GB14 LL14
        go_wp2_with fail
        refine (HAW.out _).mono ?_
        rintro e w9 ⟨rfl, g9⟩
        have G9 := hid (G15.out.trans g9)
        clear g9
        go_wp2
        go_ret
        exact ⟨rfl, G9.out⟩
      · have p5 : decide (5 ≤ k) = true := by simp; omega
        have p10 : decide (k ≤ 10) = false := by simp; omega
        have p11 : decide (k < 11) = false := by simp; omega
        have hj : jnB 2 1 k = false := by unfold jnB; rw [p5, p10, p11]; rfl
        obtain ⟨rfl, rfl⟩ : z = 0 ∧ g = 192 := by
          have := HZ2.out
          rw [hj] at this
          simp at this
          exact ⟨this.1, this.2.2⟩
        obtain rfl : zC = 2 := by
          rcases HZC.out with h9 | h9
          · exact absurd h9 (by decide)
          · exact h9
        clear hj
        go_wp2_with fail
        refine (CP1.out _ G8.out).mono ?_
        rintro e w10 ⟨b10, d10, L10, rfl, M10, E10⟩
        have LL10 : Hid (L10.length = n1) := M10.out.rds.2.symm
        have MA10 : Hid (NsMk w (w10.alloc (.cells #[.int .i64 5, .int .i64 1, .string ⟨#[]⟩, .slice none 0 0, .int .i64 0, .int .i64 0, .int .i64 0, .slice none 0 0, .bool false, .int .i64 1] 37)) (.slice b10 n1 d10) L10) := M10.out.grown (World.grownBy_alloc _ _ none)
        have HO10 : Hid (SOwn ndE 37 (w10.alloc (.cells #[.int .i64 5, .int .i64 1, .string ⟨#[]⟩, .slice none 0 0, .int .i64 0, .int .i64 0, .int .i64 0, .slice none 0 0, .bool false, .int .i64 1] 37)) w.heap.size (.slice b10 n1 d10) n1 L10) := by
          have := MA10.out.own
          rw [LL10.out] at this
          exact this
        have HL10 : Hid (SRd ndE (w10.alloc (.cells #[.int .i64 5, .int .i64 1, .string ⟨#[]⟩, .slice none 0 0, .int .i64 0, .int .i64 0, .int .i64 0, .slice none 0 0, .bool false, .int .i64 1] 37)) (some ⟨w10.heap.size, 0, none⟩) [(aggN 1 0 [], (none, 0, 0), (none, 0, 0))]) := lit_rd ndE w10 37 [(aggN 1 0 [], (none, 0, 0), (none, 0, 0))]
        go_wp2_with (at_builtin; refine wpList_append_s ndT (by rfl) (.tmp 143) (.tmp 145) (by rfl) w.heap.size (.slice b10 n1 d10) n1 L10 (by rfl) ?hown (some ⟨w10.heap.size, 0, none⟩) [(aggN 1 0 [], (none, 0, 0), (none, 0, 0))] 1 1 (by rfl) (by rfl) ?hrd (by simp) (by omega) (by unfold maxLen; omega) ?hb ?_)
        case hown => exact HO10.out
        case hrd => exact HL10.out
        case hb => first | exact MA10.out.up.size | (have h9 := MA10.out.up.size; rw [size_alloc] at h9; exact h9)
        intro v10 v10w ho10 hg10 hn10
        have MB10 : NsMk w v10w v10 (L10 ++ [(aggN 1 0 [], (none, 0, 0), (none, 0, 0))]) := MA10.out.one rfl rfl (by rw [LL10.out]; exact ho10) hg10
        have EB10 : Hid ((L10 ++ [(aggN 1 0 [], (none, 0, 0), (none, 0, 0))] : List Row).map (·.1) = Q1.map (·.1) ++ [aggN 1 0 []]) := by show _ = _; rw [List.map_append, E10.out]; rfl
        obtain ⟨ba10, da10, hv10⟩ := MB10.slN (n := n1 + 1) (by rw [List.length_append, LL10.out]; rfl)
        subst hv10
        have MB10 := hid MB10
        have GB10 := hid MB10.out.up
        clear ho10 hg10 hn10 HO10 HL10 MA10 M10 E10
        go_wp2_with fail
        refine (HCN.out _ (n1 + 1) (by rw [List.length_append, EL1.out]; rfl) (by omega) _ _ _ HA.out _ _ _ _ MB10.out EB10.out).mono ?_
        rintro e w11 ⟨rfl, g11⟩
        have G11 := hid (GB10.out.trans g11)
        clear g11 MB10 EB10 GB10 LL10
        go_wp2_with fail
        refine (CP1.out _ G11.out).mono ?_
        rintro e w12 ⟨b12, d12, L12, rfl, M12, E12⟩
        have LL12 : Hid (L12.length = n1) := M12.out.rds.2.symm
        have MA12 : Hid (NsMk w (w12.alloc (.cells #[.int .i64 4, .int .i64 1, .string ⟨#[]⟩, .slice none 0 0, .int .i64 0, .int .i64 0, .int .i64 0, .slice none 0 0, .bool false, .int .i64 1] 37)) (.slice b12 n1 d12) L12) := M12.out.grown (World.grownBy_alloc _ _ none)
        have HO12 : Hid (SOwn ndE 37 (w12.alloc (.cells #[.int .i64 4, .int .i64 1, .string ⟨#[]⟩, .slice none 0 0, .int .i64 0, .int .i64 0, .int .i64 0, .slice none 0 0, .bool false, .int .i64 1] 37)) w.heap.size (.slice b12 n1 d12) n1 L12) := by
          have := MA12.out.own
          rw [LL12.out] at this
          exact this
        have HL12 : Hid (SRd ndE (w12.alloc (.cells #[.int .i64 4, .int .i64 1, .string ⟨#[]⟩, .slice none 0 0, .int .i64 0, .int .i64 0, .int .i64 0, .slice none 0 0, .bool false, .int .i64 1] 37)) (some ⟨w12.heap.size, 0, none⟩) [(callN 1, (none, 0, 0), (none, 0, 0))]) := lit_rd ndE w12 37 [(callN 1, (none, 0, 0), (none, 0, 0))]
        go_wp2_with (at_builtin; refine wpList_append_s ndT (by rfl) (.tmp 153) (.tmp 155) (by rfl) w.heap.size (.slice b12 n1 d12) n1 L12 (by rfl) ?hown (some ⟨w12.heap.size, 0, none⟩) [(callN 1, (none, 0, 0), (none, 0, 0))] 1 1 (by rfl) (by rfl) ?hrd (by simp) (by omega) (by unfold maxLen; omega) ?hb ?_)
        case hown => exact HO12.out
        case hrd => exact HL12.out
        case hb => first | exact MA12.out.up.size | (have h9 := MA12.out.up.size; rw [size_alloc] at h9; exact h9)
        intro v12 v12w ho12 hg12 hn12
        have MB12 : NsMk w v12w v12 (L12 ++ [(callN 1, (none, 0, 0), (none, 0, 0))]) := MA12.out.one rfl rfl (by rw [LL12.out]; exact ho12) hg12
        have EB12 : Hid ((L12 ++ [(callN 1, (none, 0, 0), (none, 0, 0))] : List Row).map (·.1) = Q1.map (·.1) ++ [callN 1]) := by show _ = _; rw [List.map_append, E12.out]; rfl
        obtain ⟨ba12, da12, hv12⟩ := MB12.slN (n := n1 + 1) (by rw [List.length_append, LL12.out]; rfl)
        subst hv12
        have MB12 := hid MB12
        have GB12 := hid MB12.out.up
        clear ho12 hg12 hn12 HO12 HL12 MA12 M12 E12
        go_wp2_with fail
        refine (HCN.out _ (n1 + 1) (by rw [List.length_append, EL1.out]; rfl) (by omega) _ _ _ HB.out _ _ _ _ MB12.out EB12.out).mono ?_
        rintro e w13 ⟨rfl, g13⟩
        have G13 := hid (GB12.out.trans g13)
        clear g13 MB12 EB12 GB12 LL12
        go_wp2_with fail
        refine (CP1.out _ G13.out).mono ?_
        rintro e w14 ⟨b14, d14, L14, rfl, M14, E14⟩
        have LL14 : Hid (L14.length = n1) := M14.out.rds.2.symm
        have MA14 : Hid (NsMk w (w14.alloc (.cells #[.int .i64 7, .int .i64 0, .string ⟨#[]⟩, .slice none 0 0, .int .i64 0, .int .i64 0, .int .i64 0, .slice none 0 0, .bool false, .int .i64 1] 37)) (.slice b14 n1 d14) L14) := M14.out.grown (World.grownBy_alloc _ _ none)
        have HO14 : Hid (SOwn ndE 37 (w14.alloc (.cells #[.int .i64 7, .int .i64 0, .string ⟨#[]⟩, .slice none 0 0, .int .i64 0, .int .i64 0, .int .i64 0, .slice none 0 0, .bool false, .int .i64 1] 37)) w.heap.size (.slice b14 n1 d14) n1 L14) := by
          have := MA14.out.own
          rw [LL14.out] at this
          exact this
        have HL14 : Hid (SRd ndE (w14.alloc (.cells #[.int .i64 7, .int .i64 0, .string ⟨#[]⟩, .slice none 0 0, .int .i64 0, .int .i64 0, .int .i64 0, .slice none 0 0, .bool false, .int .i64 1] 37)) (some ⟨w14.heap.size, 0, none⟩) [(negN, (none, 0, 0), (none, 0, 0))]) := lit_rd ndE w14 37 [(negN, (none, 0, 0), (none, 0, 0))]
        go_wp2_with (at_builtin; refine wpList_append_s ndT (by rfl) (.tmp 163) (.tmp 165) (by rfl) w.heap.size (.slice b14 n1 d14) n1 L14 (by rfl) ?hown (some ⟨w14.heap.size, 0, none⟩) [(negN, (none, 0, 0), (none, 0, 0))] 1 1 (by rfl) (by rfl) ?hrd (by simp) (by omega) (by unfold maxLen; omega) ?hb ?_)
        case hown => exact HO14.out
        case hrd => exact HL14.out
        case hb => first | exact MA14.out.up.size | (have h9 := MA14.out.up.size; rw [size_alloc] at h9; exact h9)
        intro v14 v14w ho14 hg14 hn14
        have MB14 : NsMk w v14w v14 (L14 ++ [(negN, (none, 0, 0), (none, 0, 0))]) := MA14.out.one rfl rfl (by rw [LL14.out]; exact ho14) hg14
        have EB14 : Hid ((L14 ++ [(negN, (none, 0, 0), (none, 0, 0))] : List Row).map (·.1) = Q1.map (·.1) ++ [negN]) := by show _ = _; rw [List.map_append, E14.out]; rfl
        obtain ⟨ba14, da14, hv14⟩ := MB14.slN (n := n1 + 1) (by rw [List.length_append, LL14.out]; rfl)
        subst hv14
        have MB14 := hid MB14
        have GB14 := hid MB14.out.up
        clear ho14 hg14 hn14 HO14 HL14 MA14 M14 E14
        go_wp2_with fail
        refine (HCN.out _ (n1 + 1) (by rw [List.length_append, EL1.out]; rfl) (by omega) _ _ _ HC.out _ _ _ _ MB14.out EB14.out).mono ?_
        rintro e w15 ⟨rfl, g15⟩
        have G15 := hid (GB14.out.trans g15)
        clear g15 MB14 EB14 GB14 LL14
        go_wp2_with fail
        refine (HAW.out _).mono ?_
        rintro e w9 ⟨rfl, g9⟩
        have G9 := hid (G15.out.trans g9)
        clear g9
        go_wp2
        go_ret
        exact ⟨rfl, G9.out⟩
  · by_cases h4 : k ≤ 4
    · have p5 : decide (5 ≤ k) = false := by simp; omega
      have p10 : decide (k ≤ 10) = true := by simp; omega
      have p11 : decide (k < 11) = true := by simp; omega
      have hj : jnB 2 2 k = true := by unfold jnB; rw [p5, p10, p11]; rfl
      obtain ⟨rfl, rfl, rfl⟩ : z = 2 ∧ n4 = 0 ∧ g = 0 := by
        have := HZ2.out
        rw [hj] at this
        simpa using this
      obtain rfl : zC = 2 := by
        rcases HZC.out with h9 | h9
        · exact absurd h9 (by decide)
        · exact h9
      clear hj
      go_wp2_with fail
      refine (CP1.out _ G8.out).mono ?_
      rintro e w10 ⟨b10, d10, L10, rfl, M10, E10⟩
      have LL10 : Hid (L10.length = n1) := M10.out.rds.2.symm
      have MA10 : Hid (NsMk w (w10.alloc (.cells #[.int .i64 5, .int .i64 1, .string ⟨#[]⟩, .slice none 0 0, .int .i64 0, .int .i64 0, .int .i64 0, .slice none 0 0, .bool false, .int .i64 1] 37)) (.slice b10 n1 d10) L10) := M10.out.grown (World.grownBy_alloc _ _ none)
      have HO10 : Hid (SOwn ndE 37 (w10.alloc (.cells #[.int .i64 5, .int .i64 1, .string ⟨#[]⟩, .slice none 0 0, .int .i64 0, .int .i64 0, .int .i64 0, .slice none 0 0, .bool false, .int .i64 1] 37)) w.heap.size (.slice b10 n1 d10) n1 L10) := by
        have := MA10.out.own
        rw [LL10.out] at this
        exact this
      have HL10 : Hid (SRd ndE (w10.alloc (.cells #[.int .i64 5, .int .i64 1, .string ⟨#[]⟩, .slice none 0 0, .int .i64 0, .int .i64 0, .int .i64 0, .slice none 0 0, .bool false, .int .i64 1] 37)) (some ⟨w10.heap.size, 0, none⟩) [(aggN 1 0 [], (none, 0, 0), (none, 0, 0))]) := lit_rd ndE w10 37 [(aggN 1 0 [], (none, 0, 0), (none, 0, 0))]
      go_wp2_with (at_builtin; refine wpList_append_s ndT (by rfl) (.tmp 143) (.tmp 145) (by rfl) w.heap.size (.slice b10 n1 d10) n1 L10 (by rfl) ?hown (some ⟨w10.heap.size, 0, none⟩) [(aggN 1 0 [], (none, 0, 0), (none, 0, 0))] 1 1 (by rfl) (by rfl) ?hrd (by simp) (by omega) (by unfold maxLen; omega) ?hb ?_)
      case hown => exact HO10.out
      case hrd => exact HL10.out
      case hb => first | exact MA10.out.up.size | (have h9 := MA10.out.up.size; rw [size_alloc] at h9; exact h9)
      intro v10 v10w ho10 hg10 hn10
      have MB10 : NsMk w v10w v10 (L10 ++ [(aggN 1 0 [], (none, 0, 0), (none, 0, 0))]) := MA10.out.one rfl rfl (by rw [LL10.out]; exact ho10) hg10
      have EB10 : Hid ((L10 ++ [(aggN 1 0 [], (none, 0, 0), (none, 0, 0))] : List Row).map (·.1) = Q1.map (·.1) ++ [aggN 1 0 []]) := by show _ = _; rw [List.map_append, E10.out]; rfl
      obtain ⟨ba10, da10, hv10⟩ := MB10.slN (n := n1 + 1) (by rw [List.length_append, LL10.out]; rfl)
      subst hv10
      have MB10 := hid MB10
      have GB10 := hid MB10.out.up
      clear ho10 hg10 hn10 HO10 HL10 MA10 M10 E10
      go_wp2_with fail
      refine (HCN.out _ (n1 + 1) (by rw [List.length_append, EL1.out]; rfl) (by omega) _ _ _ HA.out _ _ _ _ MB10.out EB10.out).mono ?_
      rintro e w11 ⟨rfl, g11⟩
      have G11 := hid (GB10.out.trans g11)
      clear g11 MB10 EB10 GB10 LL10
      go_wp2_with fail
      refine (CP1.out _ G11.out).mono ?_
      rintro e w12 ⟨b12, d12, L12, rfl, M12, E12⟩
      have LL12 : Hid (L12.length = n1) := M12.out.rds.2.symm
      have MA12 : Hid (NsMk w (w12.alloc (.cells #[.int .i64 4, .int .i64 1, .string ⟨#[]⟩, .slice none 0 0, .int .i64 0, .int .i64 0, .int .i64 0, .slice none 0 0, .bool false, .int .i64 1] 37)) (.slice b12 n1 d12) L12) := M12.out.grown (World.grownBy_alloc _ _ none)
      have HO12 : Hid (SOwn ndE 37 (w12.alloc (.cells #[.int .i64 4, .int .i64 1, .string ⟨#[]⟩, .slice none 0 0, .int .i64 0, .int .i64 0, .int .i64 0, .slice none 0 0, .bool false, .int .i64 1] 37)) w.heap.size (.slice b12 n1 d12) n1 L12) := by
        have := MA12.out.own
        rw [LL12.out] at this
        exact this
      have HL12 : Hid (SRd ndE (w12.alloc (.cells #[.int .i64 4, .int .i64 1, .string ⟨#[]⟩, .slice none 0 0, .int .i64 0, .int .i64 0, .int .i64 0, .slice none 0 0, .bool false, .int .i64 1] 37)) (some ⟨w12.heap.size, 0, none⟩) [(callN 1, (none, 0, 0), (none, 0, 0))]) := lit_rd ndE w12 37 [(callN 1, (none, 0, 0), (none, 0, 0))]
      go_wp2_with (at_builtin; refine wpList_append_s ndT (by rfl) (.tmp 153) (.tmp 155) (by rfl) w.heap.size (.slice b12 n1 d12) n1 L12 (by rfl) ?hown (some ⟨w12.heap.size, 0, none⟩) [(callN 1, (none, 0, 0), (none, 0, 0))] 1 1 (by rfl) (by rfl) ?hrd (by simp) (by omega) (by unfold maxLen; omega) ?hb ?_)
      case hown => exact HO12.out
      case hrd => exact HL12.out
      case hb => first | exact MA12.out.up.size | (have h9 := MA12.out.up.size; rw [size_alloc] at h9; exact h9)
      intro v12 v12w ho12 hg12 hn12
      have MB12 : NsMk w v12w v12 (L12 ++ [(callN 1, (none, 0, 0), (none, 0, 0))]) := MA12.out.one rfl rfl (by rw [LL12.out]; exact ho12) hg12
      have EB12 : Hid ((L12 ++ [(callN 1, (none, 0, 0), (none, 0, 0))] : List Row).map (·.1) = Q1.map (·.1) ++ [callN 1]) := by show _ = _; rw [List.map_append, E12.out]; rfl
      obtain ⟨ba12, da12, hv12⟩ := MB12.slN (n := n1 + 1) (by rw [List.length_append, LL12.out]; rfl)
      subst hv12
      have MB12 := hid MB12
      have GB12 := hid MB12.out.up
      clear ho12 hg12 hn12 HO12 HL12 MA12 M12 E12
      go_wp2_with fail
      refine (HCN.out _ (n1 + 1) (by rw [List.length_append, EL1.out]; rfl) (by omega) _ _ _ HB.out _ _ _ _ MB12.out EB12.out).mono ?_
      rintro e w13 ⟨rfl, g13⟩
      have G13 := hid (GB12.out.trans g13)
      clear g13 MB12 EB12 GB12 LL12
      go_wp2_with fail
      refine (CP1.out _ G13.out).mono ?_
      rintro e w14 ⟨b14, d14, L14, rfl, M14, E14⟩
      have LL14 : Hid (L14.length = n1) := M14.out.rds.2.symm
      have MA14 : Hid (NsMk w (w14.alloc (.cells #[.int .i64 7, .int .i64 0, .string ⟨#[]⟩, .slice none 0 0, .int .i64 0, .int .i64 0, .int .i64 0, .slice none 0 0, .bool false, .int .i64 1] 37)) (.slice b14 n1 d14) L14) := M14.out.grown (World.grownBy_alloc _ _ none)
      have HO14 : Hid (SOwn ndE 37 (w14.alloc (.cells #[.int .i64 7, .int .i64 0, .string ⟨#[]⟩, .slice none 0 0, .int .i64 0, .int .i64 0, .int .i64 0, .slice none 0 0, .bool false, .int .i64 1] 37)) w.heap.size (.slice b14 n1 d14) n1 L14) := by
        have := MA14.out.own
        rw [LL14.out] at this
        exact this
      have HL14 : Hid (SRd ndE (w14.alloc (.cells #[.int .i64 7, .int .i64 0, .string ⟨#[]⟩, .slice none 0 0, .int .i64 0, .int .i64 0, .int .i64 0, .slice none 0 0, .bool false, .int .i64 1] 37)) (some ⟨w14.heap.size, 0, none⟩) [(negN, (none, 0, 0), (none, 0, 0))]) := lit_rd ndE w14 37 [(negN, (none, 0, 0), (none, 0, 0))]
      go_wp2_with (at_builtin; refine wpList_append_s ndT (by rfl) (.tmp 163) (.tmp 165) (by rfl) w.heap.size (.slice b14 n1 d14) n1 L14 (by rfl) ?hown (some ⟨w14.heap.size, 0, none⟩) [(negN, (none, 0, 0), (none, 0, 0))] 1 1 (by rfl) (by rfl) ?hrd (by simp) (by omega) (by unfold maxLen; omega) ?hb ?_)
      case hown => exact HO14.out
      case hrd => exact HL14.out
      case hb => first | exact MA14.out.up.size | (have h9 := MA14.out.up.size; rw [size_alloc] at h9; exact h9)
      intro v14 v14w ho14 hg14 hn14
      have MB14 : NsMk w v14w v14 (L14 ++ [(negN, (none, 0, 0), (none, 0, 0))]) := MA14.out.one rfl rfl (by rw [LL14.out]; exact ho14) hg14
      have EB14 : Hid ((L14 ++ [(negN, (none, 0, 0), (none, 0, 0))] : List Row).map (·.1) = Q1.map (·.1) ++ [negN]) := by show _ = _; rw [List.map_append, E14.out]; rfl
      obtain ⟨ba14, da14, hv14⟩ := MB14.slN (n := n1 + 1) (by rw [List.length_append, LL14.out]; rfl)
      subst hv14
      have MB14 := hid MB14
      have GB14 := hid MB14.out.up
      clear ho14 hg14 hn14 HO14 HL14 MA14 M14 E14
      go_wp2_with fail
      refine (HCN.out _ (n1 + 1) (by rw [List.length_append, EL1.out]; rfl) (by omega) _ _ _ HC.out _ _ _ _ MB14.out EB14.out).mono ?_
      rintro e w15 ⟨rfl, g15⟩
      have G15 := hid (GB14.out.trans g15)
      clear g15 MB14 EB14 GB14 LL14
      go_wp2_with fail
      refine (HAW.out _).mono ?_
      rintro e w9 ⟨rfl, g9⟩
      have G9 := hid (G15.out.trans g9)
      clear g9
      go_wp2
      go_ret
      exact ⟨rfl, G9.out⟩
    · by_cases h10 : k ≤ 10
      · have p5 : decide (5 ≤ k) = true := by simp; omega
        have p10 : decide (k ≤ 10) = true := by simp; omega
        have p11 : decide (k < 11) = true := by simp; omega
        have hj : jnB 2 2 k = true := by unfold jnB; rw [p5, p10, p11]; rfl
        obtain ⟨rfl, rfl, rfl⟩ : z = 2 ∧ n4 = 0 ∧ g = 0 := by
          have := HZ2.out
          rw [hj] at this
          simpa using this
        obtain rfl : zC = 2 := by
          rcases HZC.out with h9 | h9
          · exact absurd h9 (by decide)
          · exact h9
        clear hj
        go_wp2_with fail
        refine (CP1.out _ G8.out).mono ?_
        rintro e w10 ⟨b10, d10, L10, rfl, M10, E10⟩
        have LL10 : Hid (L10.length = n1) := M10.out.rds.2.symm
        have MA10 : Hid (NsMk w (w10.alloc (.cells #[.int .i64 5, .int .i64 1, .string ⟨#[]⟩, .slice none 0 0, .int .i64 0, .int .i64 0, .int .i64 0, .slice none 0 0, .bool false, .int .i64 1] 37)) (.slice b10 n1 d10) L10) := M10.out.grown (World.grownBy_alloc _ _ none)
        have HO10 : Hid (SOwn ndE 37 (w10.alloc (.cells #[.int .i64 5, .int .i64 1, .string ⟨#[]⟩, .slice none 0 0, .int .i64 0, .int .i64 0, .int .i64 0, .slice none 0 0, .bool false, .int .i64 1] 37)) w.heap.size (.slice b10 n1 d10) n1 L10) := by
          have := MA10.out.own
          rw [LL10.out] at this
          exact this
        have HL10 : Hid (SRd ndE (w10.alloc (.cells #[.int .i64 5, .int .i64 1, .string ⟨#[]⟩, .slice none 0 0, .int .i64 0, .int .i64 0, .int .i64 0, .slice none 0 0, .bool false, .int .i64 1] 37)) (some ⟨w10.heap.size, 0, none⟩) [(aggN 1 0 [], (none, 0, 0), (none, 0, 0))]) := lit_rd ndE w10 37 [(aggN 1 0 [], (none, 0, 0), (none, 0, 0))]
        go_wp2_with (at_builtin; refine wpList_append_s ndT (by rfl) (.tmp 143) (.tmp 145) (by rfl) w.heap.size (.slice b10 n1 d10) n1 L10 (by rfl) ?hown (some ⟨w10.heap.size, 0, none⟩) [(aggN 1 0 [], (none, 0, 0), (none, 0, 0))] 1 1 (by rfl) (by rfl) ?hrd (by simp) (by omega) (by unfold maxLen; omega) ?hb ?_)
        case hown => exact HO10.out
        case hrd => exact HL10.out
        case hb => first | exact MA10.out.up.size | (have h9 := MA10.out.up.size; rw [size_alloc] at h9; exact h9)
        intro v10 v10w ho10 hg10 hn10
        have MB10 : NsMk w v10w v10 (L10 ++ [(aggN 1 0 [], (none, 0, 0), (none, 0, 0))]) := MA10.out.one rfl rfl (by rw [LL10.out]; exact ho10) hg10
        have EB10 : Hid ((L10 ++ [(aggN 1 0 [], (none, 0, 0), (none, 0, 0))] : List Row).map (·.1) = Q1.map (·.1) ++ [aggN 1 0 []]) := by show _ = _; rw [List.map_append, E10.out]; rfl
        obtain ⟨ba10, da10, hv10⟩ := MB10.slN (n := n1 + 1) (by rw [List.length_append, LL10.out]; rfl)
        subst hv10
        have MB10 := hid MB10
        have GB10 := hid MB10.out.up
        clear ho10 hg10 hn10 HO10 HL10 MA10 M10 E10
        go_wp2_with fail
        refine (HCN.out _ (n1 + 1) (by rw [List.length_append, EL1.out]; rfl) (by omega) _ _ _ HA.out _ _ _ _ MB10.out EB10.out).mono ?_
        rintro e w11 ⟨rfl, g11⟩
        have G11 := hid (GB10.out.trans g11)
        clear g11 MB10 EB10 GB10 LL10
        go_wp2_with fail
        refine (CP1.out _ G11.out).mono ?_
        rintro e w12 ⟨b12, d12, L12, rfl, M12, E12⟩
        have LL12 : Hid (L12.length = n1) := M12.out.rds.2.symm
        have MA12 : Hid (NsMk w (w12.alloc (.cells #[.int .i64 4, .int .i64 1, .string ⟨#[]⟩, .slice none 0 0, .int .i64 0, .int .i64 0, .int .i64 0, .slice none 0 0, .bool false, .int .i64 1] 37)) (.slice b12 n1 d12) L12) := M12.out.grown (World.grownBy_alloc _ _ none)
        have HO12 : Hid (SOwn ndE 37 (w12.alloc (.cells #[.int .i64 4, .int .i64 1, .string ⟨#[]⟩, .slice none 0 0, .int .i64 0, .int .i64 0, .int .i64 0, .slice none 0 0, .bool false, .int .i64 1] 37)) w.heap.size (.slice b12 n1 d12) n1 L12) := by
          have := MA12.out.own
          rw [LL12.out] at this
          exact this
        have HL12 : Hid (SRd ndE (w12.alloc (.cells #[.int .i64 4, .int .i64 1, .string ⟨#[]⟩, .slice none 0 0, .int .i64 0, .int .i64 0, .int .i64 0, .slice none 0 0, .bool false, .int .i64 1] 37)) (some ⟨w12.heap.size, 0, none⟩) [(callN 1, (none, 0, 0), (none, 0, 0))]) := lit_rd ndE w12 37 [(callN 1, (none, 0, 0), (none, 0, 0))]
        go_wp2_with (at_builtin; refine wpList_append_s ndT (by rfl) (.tmp 153) (.tmp 155) (by rfl) w.heap.size (.slice b12 n1 d12) n1 L12 (by rfl) ?hown (some ⟨w12.heap.size, 0, none⟩) [(callN 1, (none, 0, 0), (none, 0, 0))] 1 1 (by rfl) (by rfl) ?hrd (by simp) (by omega) (by unfold maxLen; omega) ?hb ?_)
        case hown => exact HO12.out
        case hrd => exact HL12.out
        case hb => first | exact MA12.out.up.size | (have h9 := MA12.out.up.size; rw [size_alloc] at h9; exact h9)
        intro v12 v12w ho12 hg12 hn12
        have MB12 : NsMk w v12w v12 (L12 ++ [(callN 1, (none, 0, 0), (none, 0, 0))]) := MA12.out.one rfl rfl (by rw [LL12.out]; exact ho12) hg12
        have EB12 : Hid ((L12 ++ [(callN 1, (none, 0, 0), (none, 0, 0))] : List Row).map (·.1) = Q1.map (·.1) ++ [callN 1]) := by show _ = _; rw [List.map_append, E12.out]; rfl
        obtain ⟨ba12, da12, hv12⟩ := MB12.slN (n := n1 + 1) (by rw [List.length_append, LL12.out]; rfl)
        subst hv12
        have MB12 := hid MB12
        have GB12 := hid MB12.out.up
        clear ho12 hg12 hn12 HO12 HL12 MA12 M12 E12
        go_wp2_with fail
        refine (HCN.out _ (n1 + 1) (by rw [List.length_append, EL1.out]; rfl) (by omega) _ _ _ HB.out _ _ _ _ MB12.out EB12.out).mono ?_
        rintro e w13 ⟨rfl, g13⟩
        have G13 := hid (GB12.out.trans g13)
        clear g13 MB12 EB12 GB12 LL12
        go_wp2_with fail
        refine (CP1.out _ G13.out).mono ?_
        rintro e w14 ⟨b14, d14, L14, rfl, M14, E14⟩
        have LL14 : Hid (L14.length = n1) := M14.out.rds.2.symm
        have MA14 : Hid (NsMk w (w14.alloc (.cells #[.int .i64 7, .int .i64 0, .string ⟨#[]⟩, .slice none 0 0, .int .i64 0, .int .i64 0, .int .i64 0, .slice none 0 0, .bool false, .int .i64 1] 37)) (.slice b14 n1 d14) L14) := M14.out.grown (World.grownBy_alloc _ _ none)
        have HO14 : Hid (SOwn ndE 37 (w14.alloc (.cells #[.int .i64 7, .int .i64 0, .string ⟨#[]⟩, .slice none 0 0, .int .i64 0, .int .i64 0, .int .i64 0, .slice none 0 0, .bool false, .int .i64 1] 37)) w.heap.size (.slice b14 n1 d14) n1 L14) := by
          have := MA14.out.own
          rw [LL14.out] at this
          exact this
        have HL14 : Hid (SRd ndE (w14.alloc (.cells #[.int .i64 7, .int .i64 0, .string ⟨#[]⟩, .slice none 0 0, .int .i64 0, .int .i64 0, .int .i64 0, .slice none 0 0, .bool false, .int .i64 1] 37)) (some ⟨w14.heap.size, 0, none⟩) [(negN, (none, 0, 0), (none, 0, 0))]) := lit_rd ndE w14 37 [(negN, (none, 0, 0), (none, 0, 0))]
        go_wp2_with (at_builtin; refine wpList_append_s ndT (by rfl) (.tmp 163) (.tmp 165) (by rfl) w.heap.size (.slice b14 n1 d14) n1 L14 (by rfl) ?hown (some ⟨w14.heap.size, 0, none⟩) [(negN, (none, 0, 0), (none, 0, 0))] 1 1 (by rfl) (by rfl) ?hrd (by simp) (by omega) (by unfold maxLen; omega) ?hb ?_)
        case hown => exact HO14.out
        case hrd => exact HL14.out
        case hb => first | exact MA14.out.up.size | (have h9 := MA14.out.up.size; rw [size_alloc] at h9; exact h9)
        intro v14 v14w ho14 hg14 hn14
        have MB14 : NsMk w v14w v14 (L14 ++ [(negN, (none, 0, 0), (none, 0, 0))]) := MA14.out.one rfl rfl (by rw [LL14.out]; exact ho14) hg14
        have EB14 : Hid ((L14 ++ [(negN, (none, 0, 0), (none, 0, 0))] : List Row).map (·.1) = Q1.map (·.1) ++ [negN]) := by show _ = _; rw [List.map_append, E14.out]; rfl
        obtain ⟨ba14, da14, hv14⟩ := MB14.slN (n := n1 + 1) (by rw [List.length_append, LL14.out]; rfl)
        subst hv14
        have MB14 := hid MB14
        have GB14 := hid MB14.out.up
        clear ho14 hg14 hn14 HO14 HL14 MA14 M14 E14
        go_wp2_with fail
        refine (HCN.out _ (n1 + 1) (by rw [List.length_append, EL1.out]; rfl) (by omega) _ _ _ HC.out _ _ _ _ MB14.out EB14.out).mono ?_
        rintro e w15 ⟨rfl, g15⟩
        have G15 := hid (GB14.out.trans g15)
        clear g15 MB14 EB14 GB14 LL14
        go_wp2_with fail
        refine (HAW.out _).mono ?_
        rintro e w9 ⟨rfl, g9⟩
        have G9 := hid (G15.out.trans g9)
        clear g9
        go_wp2
        go_ret
        exact ⟨rfl, G9.out⟩
      · have p5 : decide (5 ≤ k) = true := by simp; omega
        have p10 : decide (k ≤ 10) = false := by simp; omega
        have p11 : decide (k < 11) = false := by simp; omega
        have hj : jnB 2 2 k = true := by unfold jnB; rw [p5, p10, p11]; rfl
        obtain ⟨rfl, rfl, rfl⟩ : z = 2 ∧ n4 = 0 ∧ g = 0 := by
          have := HZ2.out
          rw [hj] at this
          simpa using this
        obtain rfl : zC = 2 := by
          rcases HZC.out with h9 | h9
          · exact absurd h9 (by decide)
          · exact h9
        clear hj
        go_wp2_with fail
        refine (CP1.out _ G8.out).mono ?_
        rintro e w10 ⟨b10, d10, L10, rfl, M10, E10⟩
        have LL10 : Hid (L10.length = n1) := M10.out.rds.2.symm
        have MA10 : Hid (NsMk w (w10.alloc (.cells #[.int .i64 5, .int .i64 1, .string ⟨#[]⟩, .slice none 0 0, .int .i64 0, .int .i64 0, .int .i64 0, .slice none 0 0, .bool false, .int .i64 1] 37)) (.slice b10 n1 d10) L10) := M10.out.grown (World.grownBy_alloc _ _ none)
        have HO10 : Hid (SOwn ndE 37 (w10.alloc (.cells #[.int .i64 5, .int .i64 1, .string ⟨#[]⟩, .slice none 0 0, .int .i64 0, .int .i64 0, .int .i64 0, .slice none 0 0, .bool false, .int .i64 1] 37)) w.heap.size (.slice b10 n1 d10) n1 L10) := by
          have := MA10.out.own
          rw [LL10.out] at this
          exact this
        have HL10 : Hid (SRd ndE (w10.alloc (.cells #[.int .i64 5, .int .i64 1, .string ⟨#[]⟩, .slice none 0 0, .int .i64 0, .int .i64 0, .int .i64 0, .slice none 0 0, .bool false, .int .i64 1] 37)) (some ⟨w10.heap.size, 0, none⟩) [(aggN 1 0 [], (none, 0, 0), (none, 0, 0))]) := lit_rd ndE w10 37 [(aggN 1 0 [], (none, 0, 0), (none, 0, 0))]
        go_wp2_with (at_builtin; refine wpList_append_s ndT (by rfl) (.tmp 143) (.tmp 145) (by rfl) w.heap.size (.slice b10 n1 d10) n1 L10 (by rfl) ?hown (some ⟨w10.heap.size, 0, none⟩) [(aggN 1 0 [], (none, 0, 0), (none, 0, 0))] 1 1 (by rfl) (by rfl) ?hrd (by simp) (by omega) (by unfold maxLen; omega) ?hb ?_)
        case hown => exact HO10.out
        case hrd => exact HL10.out
        case hb => first | exact MA10.out.up.size | (have h9 := MA10.out.up.size; rw [size_alloc] at h9; exact h9)
        intro v10 v10w ho10 hg10 hn10
        have MB10 : NsMk w v10w v10 (L10 ++ [(aggN 1 0 [], (none, 0, 0), (none, 0, 0))]) := MA10.out.one rfl rfl (by rw [LL10.out]; exact ho10) hg10
        have EB10 : Hid ((L10 ++ [(aggN 1 0 [], (none, 0, 0), (none, 0, 0))] : List Row).map (·.1) = Q1.map (·.1) ++ [aggN 1 0 []]) := by show _ = _; rw [List.map_append, E10.out]; rfl
        obtain ⟨ba10, da10, hv10⟩ := MB10.slN (n := n1 + 1) (by rw [List.length_append, LL10.out]; rfl)
        subst hv10
        have MB10 := hid MB10
        have GB10 := hid MB10.out.up
        clear ho10 hg10 hn10 HO10 HL10 MA10 M10 E10
        go_wp2_with fail
        refine (HCN.out _ (n1 + 1) (by rw [List.length_append, EL1.out]; rfl) (by omega) _ _ _ HA.out _ _ _ _ MB10.out EB10.out).mono ?_
        rintro e w11 ⟨rfl, g11⟩
        have G11 := hid (GB10.out.trans g11)
        clear g11 MB10 EB10 GB10 LL10
        go_wp2_with fail
        refine (CP1.out _ G11.out).mono ?_
        rintro e w12 ⟨b12, d12, L12, rfl, M12, E12⟩
        have LL12 : Hid (L12.length = n1) := M12.out.rds.2.symm
        have MA12 : Hid (NsMk w (w12.alloc (.cells #[.int .i64 4, .int .i64 1, .string ⟨#[]⟩, .slice none 0 0, .int .i64 0, .int .i64 0, .int .i64 0, .slice none 0 0, .bool false, .int .i64 1] 37)) (.slice b12 n1 d12) L12) := M12.out.grown (World.grownBy_alloc _ _ none)
        have HO12 : Hid (SOwn ndE 37 (w12.alloc (.cells #[.int .i64 4, .int .i64 1, .string ⟨#[]⟩, .slice none 0 0, .int .i64 0, .int .i64 0, .int .i64 0, .slice none 0 0, .bool false, .int .i64 1] 37)) w.heap.size (.slice b12 n1 d12) n1 L12) := by
          have := MA12.out.own
          rw [LL12.out] at this
          exact this
        have HL12 : Hid (SRd ndE (w12.alloc (.cells #[.int .i64 4, .int .i64 1, .string ⟨#[]⟩, .slice none 0 0, .int .i64 0, .int .i64 0, .int .i64 0, .slice none 0 0, .bool false, .int .i64 1] 37)) (some ⟨w12.heap.size, 0, none⟩) [(callN 1, (none, 0, 0), (none, 0, 0))]) := lit_rd ndE w12 37 [(callN 1, (none, 0, 0), (none, 0, 0))]
        go_wp2_with (at_builtin; refine wpList_append_s ndT (by rfl) (.tmp 153) (.tmp 155) (by rfl) w.heap.size (.slice b12 n1 d12) n1 L12 (by rfl) ?hown (some ⟨w12.heap.size, 0, none⟩) [(callN 1, (none, 0, 0), (none, 0, 0))] 1 1 (by rfl) (by rfl) ?hrd (by simp) (by omega) (by unfold maxLen; omega) ?hb ?_)
        case hown => exact HO12.out
        case hrd => exact HL12.out
        case hb => first | exact MA12.out.up.size | (have h9 := MA12.out.up.size; rw [size_alloc] at h9; exact h9)
        intro v12 v12w ho12 hg12 hn12
        have MB12 : NsMk w v12w v12 (L12 ++ [(callN 1, (none, 0, 0), (none, 0, 0))]) := MA12.out.one rfl rfl (by rw [LL12.out]; exact ho12) hg12
        have EB12 : Hid ((L12 ++ [(callN 1, (none, 0, 0), (none, 0, 0))] : List Row).map (·.1) = Q1.map (·.1) ++ [callN 1]) := by show _ = _; rw [List.map_append, E12.out]; rfl
        obtain ⟨ba12, da12, hv12⟩ := MB12.slN (n := n1 + 1) (by rw [List.length_append, LL12.out]; rfl)
        subst hv12
        have MB12 := hid MB12
        have GB12 := hid MB12.out.up
        clear ho12 hg12 hn12 HO12 HL12 MA12 M12 E12
        go_wp2_with fail
        refine (HCN.out _ (n1 + 1) (by rw [List.length_append, EL1.out]; rfl) (by omega) _ _ _ HB.out _ _ _ _ MB12.out EB12.out).mono ?_
        rintro e w13 ⟨rfl, g13⟩
        have G13 := hid (GB12.out.trans g13)
        clear g13 MB12 EB12 GB12 LL12
        go_wp2_with fail
        refine (CP1.out _ G13.out).mono ?_
        rintro e w14 ⟨b14, d14, L14, rfl, M14, E14⟩
        have LL14 : Hid (L14.length = n1) := M14.out.rds.2.symm
        have MA14 : Hid (NsMk w (w14.alloc (.cells #[.int .i64 7, .int .i64 0, .string ⟨#[]⟩, .slice none 0 0, .int .i64 0, .int .i64 0, .int .i64 0, .slice none 0 0, .bool false, .int .i64 1] 37)) (.slice b14 n1 d14) L14) := M14.out.grown (World.grownBy_alloc _ _ none)
        have HO14 : Hid (SOwn ndE 37 (w14.alloc (.cells #[.int .i64 7, .int .i64 0, .string ⟨#[]⟩, .slice none 0 0, .int .i64 0, .int .i64 0, .int .i64 0, .slice none 0 0, .bool false, .int .i64 1] 37)) w.heap.size (.slice b14 n1 d14) n1 L14) := by
          have := MA14.out.own
          rw [LL14.out] at this
          exact this
        have HL14 : Hid (SRd ndE (w14.alloc (.cells #[.int .i64 7, .int .i64 0, .string ⟨#[]⟩, .slice none 0 0, .int .i64 0, .int .i64 0, .int .i64 0, .slice none 0 0, .bool false, .int .i64 1] 37)) (some ⟨w14.heap.size, 0, none⟩) [(negN, (none, 0, 0), (none, 0, 0))]) := lit_rd ndE w14 37 [(negN, (none, 0, 0), (none, 0, 0))]
        go_wp2_with (at_builtin; refine wpList_append_s ndT (by rfl) (.tmp 163) (.tmp 165) (by rfl) w.heap.size (.slice b14 n1 d14) n1 L14 (by rfl) ?hown (some ⟨w14.heap.size, 0, none⟩) [(negN, (none, 0, 0), (none, 0, 0))] 1 1 (by rfl) (by rfl) ?hrd (by simp) (by omega) (by unfold maxLen; omega) ?hb ?_)
        case hown => exact HO14.out
        case hrd => exact HL14.out
        case hb => first | exact MA14.out.up.size | (have h9 := MA14.out.up.size; rw [size_alloc] at h9; exact h9)
        intro v14 v14w ho14 hg14 hn14
        have MB14 : NsMk w v14w v14 (L14 ++ [(negN, (none, 0, 0), (none, 0, 0))]) := MA14.out.one rfl rfl (by rw [LL14.out]; exact ho14) hg14
        have EB14 : Hid ((L14 ++ [(negN, (none, 0, 0), (none, 0, 0))] : List Row).map (·.1) = Q1.map (·.1) ++ [negN]) := by show _ = _; rw [List.map_append, E14.out]; rfl
        obtain ⟨ba14, da14, hv14⟩ := MB14.slN (n := n1 + 1) (by rw [List.length_append, LL14.out]; rfl)
        subst hv14
        have MB14 := hid MB14
        have GB14 := hid MB14.out.up
        clear ho14 hg14 hn14 HO14 HL14 MA14 M14 E14
        go_wp2_with fail
        refine (HCN.out _ (n1 + 1) (by rw [List.length_append, EL1.out]; rfl) (by omega) _ _ _ HC.out _ _ _ _ MB14.out EB14.out).mono ?_
        rintro e w15 ⟨rfl, g15⟩
        have G15 := hid (GB14.out.trans g15)
        clear g15 MB14 EB14 GB14 LL14
        go_wp2_with fail
        refine (HAW.out _).mono ?_
        rintro e w9 ⟨rfl, g9⟩
        have G9 := hid (G15.out.trans g9)
        clear g9
        go_wp2
        go_ret
        exact ⟨rfl, G9.out⟩
  · by_cases h4 : k ≤ 4
    · have p5 : decide (5 ≤ k) = false := by simp; omega
      have p10 : decide (k ≤ 10) = true := by simp; omega
      have p11 : decide (k < 11) = true := by simp; omega
      have hj : jnB 2 3 k = false := by unfold jnB; rw [p5, p10, p11]; rfl
      obtain ⟨rfl, rfl⟩ : z = 0 ∧ g = 192 := by
        have := HZ2.out
        rw [hj] at this
        simp at this
        exact ⟨this.1, this.2.2⟩
      obtain rfl : zC = 2 := by
        rcases HZC.out with h9 | h9
        · exact absurd h9 (by decide)
        · exact h9
      clear hj
      go_wp2_with fail
      refine (CP1.out _ G8.out).mono ?_
      rintro e w10 ⟨b10, d10, L10, rfl, M10, E10⟩
      have LL10 : Hid (L10.length = n1) := M10.out.rds.2.symm
      have MA10 : Hid (NsMk w (w10.alloc (.cells #[.int .i64 5, .int .i64 1, .string ⟨#[]⟩, .slice none 0 0, .int .i64 0, .int .i64 0, .int .i64 0, .slice none 0 0, .bool false, .int .i64 1] 37)) (.slice b10 n1 d10) L10) := M10.out.grown (World.grownBy_alloc _ _ none)
      have HO10 : Hid (SOwn ndE 37 (w10.alloc (.cells #[.int .i64 5, .int .i64 1, .string ⟨#[]⟩, .slice none 0 0, .int .i64 0, .int .i64 0, .int .i64 0, .slice none 0 0, .bool false, .int .i64 1] 37)) w.heap.size (.slice b10 n1 d10) n1 L10) := by
        have := MA10.out.own
        rw [LL10.out] at this
        exact this
      have HL10 : Hid (SRd ndE (w10.alloc (.cells #[.int .i64 5, .int .i64 1, .string ⟨#[]⟩, .slice none 0 0, .int .i64 0, .int .i64 0, .int .i64 0, .slice none 0 0, .bool false, .int .i64 1] 37)) (some ⟨w10.heap.size, 0, none⟩) [(aggN 1 0 [], (none, 0, 0), (none, 0, 0))]) := lit_rd ndE w10 37 [(aggN 1 0 [], (none, 0, 0), (none, 0, 0))]
      go_wp2_with (at_builtin; refine wpList_append_s ndT (by rfl) (.tmp 143) (.tmp 145) (by rfl) w.heap.size (.slice b10 n1 d10) n1 L10 (by rfl) ?hown (some ⟨w10.heap.size, 0, none⟩) [(aggN 1 0 [], (none, 0, 0), (none, 0, 0))] 1 1 (by rfl) (by rfl) ?hrd (by simp) (by omega) (by unfold maxLen; omega) ?hb ?_)
      case hown => exact HO10.out
      case hrd => exact HL10.out
      case hb => first | exact MA10.out.up.size | (have h9 := MA10.out.up.size; rw [size_alloc] at h9; exact h9)
      intro v10 v10w ho10 hg10 hn10
      have MB10 : NsMk w v10w v10 (L10 ++ [(aggN 1 0 [], (none, 0, 0), (none, 0, 0))]) := MA10.out.one rfl rfl (by rw [LL10.out]; exact ho10) hg10
      have EB10 : Hid ((L10 ++ [(aggN 1 0 [], (none, 0, 0), (none, 0, 0))] : List Row).map (·.1) = Q1.map (·.1) ++ [aggN 1 0 []]) := by show _ = _; rw [List.map_append, E10.out]; rfl
      obtain ⟨ba10, da10, hv10⟩ := MB10.slN (n := n1 + 1) (by rw [List.length_append, LL10.out]; rfl)
      subst hv10
      have MB10 := hid MB10
      have GB10 := hid MB10.out.up
      clear ho10 hg10 hn10 HO10 HL10 MA10 M10 E10
      go_wp2_with fail
      refine (HCN.out _ (n1 + 1) (by rw [List.length_append, EL1.out]; rfl) (by omega) _ _ _ HA.out _ _ _ _ MB10.out EB10.out).mono ?_
      rintro e w11 ⟨rfl, g11⟩
      have G11 := hid (GB10.out.trans g11)
      clear g11 MB10 EB10 GB10 LL10
      go_wp2_with fail
      refine (CP1.out _ G11.out).mono ?_
      rintro e w12 ⟨b12, d12, L12, rfl, M12, E12⟩
      have LL12 : Hid (L12.length = n1) := M12.out.rds.2.symm
      have MA12 : Hid (NsMk w (w12.alloc (.cells #[.int .i64 4, .int .i64 1, .string ⟨#[]⟩, .slice none 0 0, .int .i64 0, .int .i64 0, .int .i64 0, .slice none 0 0, .bool false, .int .i64 1] 37)) (.slice b12 n1 d12) L12) := M12.out.grown (World.grownBy_alloc _ _ none)
      have HO12 : Hid (SOwn ndE 37 (w12.alloc (.cells #[.int .i64 4, .int .i64 1, .string ⟨#[]⟩, .slice none 0 0, .int .i64 0, .int .i64 0, .int .i64 0, .slice none 0 0, .bool false, .int .i64 1] 37)) w.heap.size (.slice b12 n1 d12) n1 L12) := by
        have := MA12.out.own
        rw [LL12.out] at this
        exact this
      have HL12 : Hid (SRd ndE (w12.alloc (.cells #[.int .i64 4, .int .i64 1, .string ⟨#[]⟩, .slice none 0 0, .int .i64 0, .int .i64 0, .int .i64 0, .slice none 0 0, .bool false, .int .i64 1] 37)) (some ⟨w12.heap.size, 0, none⟩) [(callN 1, (none, 0, 0), (none, 0, 0))]) := lit_rd ndE w12 37 [(callN 1, (none, 0, 0), (none, 0, 0))]
      go_wp2_with (at_builtin; refine wpList_append_s ndT (by rfl) (.tmp 153) (.tmp 155) (by rfl) w.heap.size (.slice b12 n1 d12) n1 L12 (by rfl) ?hown (some ⟨w12.heap.size, 0, none⟩) [(callN 1, (none, 0, 0), (none, 0, 0))] 1 1 (by rfl) (by rfl) ?hrd (by simp) (by omega) (by unfold maxLen; omega) ?hb ?_)
      case hown => exact HO12.out
      case hrd => exact HL12.out
      case hb => first | exact MA12.out.up.size | (have h9 := MA12.out.up.size; rw [size_alloc] at h9; exact h9)
      intro v12 v12w ho12 hg12 hn12
      have MB12 : NsMk w v12w v12 (L12 ++ [(callN 1, (none, 0, 0), (none, 0, 0))]) := MA12.out.one rfl rfl (by rw [LL12.out]; exact ho12) hg12
      have EB12 : Hid ((L12 ++ [(callN 1, (none, 0, 0), (none, 0, 0))] : List Row).map (·.1) = Q1.map (·.1) ++ [callN 1]) := by show _ = _; rw [List.map_append, E12.out]; rfl
      obtain ⟨ba12, da12, hv12⟩ := MB12.slN (n := n1 + 1) (by rw [List.length_append, LL12.out]; rfl)
      subst hv12
      have MB12 := hid MB12
      have GB12 := hid MB12.out.up
      clear ho12 hg12 hn12 HO12 HL12 MA12 M12 E12
      go_wp2_with fail
      refine (HCN.out _ (n1 + 1) (by rw [List.length_append, EL1.out]; rfl) (by omega) _ _ _ HB.out _ _ _ _ MB12.out EB12.out).mono ?_
      rintro e w13 ⟨rfl, g13⟩
      have G13 := hid (GB12.out.trans g13)
      clear g13 MB12 EB12 GB12 LL12
      go_wp2_with fail
      refine (CP1.out _ G13.out).mono ?_
      rintro e w14 ⟨b14, d14, L14, rfl, M14, E14⟩
      have LL14 : Hid (L14.length = n1) := M14.out.rds.2.symm
      have MA14 : Hid (NsMk w (w14.alloc (.cells #[.int .i64 7, .int .i64 0, .string ⟨#[]⟩, .slice none 0 0, .int .i64 0, .int .i64 0, .int .i64 0, .slice none 0 0, .bool false, .int .i64 1] 37)) (.slice b14 n1 d14) L14) := M14.out.grown (World.grownBy_alloc _ _ none)
      have HO14 : Hid (SOwn ndE 37 (w14.alloc (.cells #[.int .i64 7, .int .i64 0, .string ⟨#[]⟩, .slice none 0 0, .int .i64 0, .int .i64 0, .int .i64 0, .slice none 0 0, .bool false, .int .i64 1] 37)) w.heap.size (.slice b14 n1 d14) n1 L14) := by
        have := MA14.out.own
        rw [LL14.out] at this
        exact this
      have HL14 : Hid (SRd ndE (w14.alloc (.cells #[.int .i64 7, .int .i64 0, .string ⟨#[]⟩, .slice none 0 0, .int .i64 0, .int .i64 0, .int .i64 0, .slice none 0 0, .bool false, .int .i64 1] 37)) (some ⟨w14.heap.size, 0, none⟩) [(negN, (none, 0, 0), (none, 0, 0))]) := lit_rd ndE w14 37 [(negN, (none, 0, 0), (none, 0, 0))]
      go_wp2_with (at_builtin; refine wpList_append_s ndT (by rfl) (.tmp 163) (.tmp 165) (by rfl) w.heap.size (.slice b14 n1 d14) n1 L14 (by rfl) ?hown (some ⟨w14.heap.size, 0, none⟩) [(negN, (none, 0, 0), (none, 0, 0))] 1 1 (by rfl) (by rfl) ?hrd (by simp) (by omega) (by unfold maxLen; omega) ?hb ?_)
      case hown => exact HO14.out
      case hrd => exact HL14.out
      case hb => first | exact MA14.out.up.size | (have h9 := MA14.out.up.size; rw [size_alloc] at h9; exact h9)
      intro v14 v14w ho14 hg14 hn14
      have MB14 : NsMk w v14w v14 (L14 ++ [(negN, (none, 0, 0), (none, 0, 0))]) := MA14.out.one rfl rfl (by rw [LL14.out]; exact ho14) hg14
      have EB14 : Hid ((L14 ++ [(negN, (none, 0, 0), (none, 0, 0))] : List Row).map (·.1) = Q1.map (·.1) ++ [negN]) := by show _ = _; rw [List.map_append, E14.out]; rfl
      obtain ⟨ba14, da14, hv14⟩ := MB14.slN (n := n1 + 1) (by rw [List.length_append, LL14.out]; rfl)
      subst hv14
      have MB14 := hid MB14
      have GB14 := hid MB14.out.up
      clear ho14 hg14 hn14 HO14 HL14 MA14 M14 E14
      go_wp2_with fail
      refine (HCN.out _ (n1 + 1) (by rw [List.length_append, EL1.out]; rfl) (by omega) _ _ _ HC.out _ _ _ _ MB14.out EB14.out).mono ?_
      rintro e w15 ⟨rfl, g15⟩
      have G15 := hid (GB14.out.trans g15)
      clear g15 MB14 EB14 GB14 LL14
      go_wp2_with fail
      refine (HAW.out _).mono ?_
      rintro e w9 ⟨rfl, g9⟩
      have G9 := hid (G15.out.trans g9)
      clear g9
      go_wp2
      go_ret
      exact ⟨rfl, G9.out⟩
    · by_cases h10 : k ≤ 10
      · have p5 : decide (5 ≤ k) = true := by simp; omega
        have p10 : decide (k ≤ 10) = true := by simp; omega
        have p11 : decide (k < 11) = true := by simp; omega
        have hj : jnB 2 3 k = false := by unfold jnB; rw [p5, p10, p11]; rfl
        obtain ⟨rfl, rfl⟩ : z = 0 ∧ g = 192 := by
          have := HZ2.out
          rw [hj] at this
          simp at this
          exact ⟨this.1, this.2.2⟩
        obtain rfl : zC = 2 := by
          rcases HZC.out with h9 | h9
          · exact absurd h9 (by decide)
          · exact h9
        clear hj
        go_wp2_with fail
        refine (CP1.out _ G8.out).mono ?_
        rintro e w10 ⟨b10, d10, L10, rfl, M10, E10⟩
        have LL10 : Hid (L10.length = n1) := M10.out.rds.2.symm
        have MA10 : Hid (NsMk w (w10.alloc (.cells #[.int .i64 5, .int .i64 1, .string ⟨#[]⟩, .slice none 0 0, .int .i64 0, .int .i64 0, .int .i64 0, .slice none 0 0, .bool false, .int .i64 1] 37)) (.slice b10 n1 d10) L10) := M10.out.grown (World.grownBy_alloc _ _ none)
        have HO10 : Hid (SOwn ndE 37 (w10.alloc (.cells #[.int .i64 5, .int .i64 1, .string ⟨#[]⟩, .slice none 0 0, .int .i64 0, .int .i64 0, .int .i64 0, .slice none 0 0, .bool false, .int .i64 1] 37)) w.heap.size (.slice b10 n1 d10) n1 L10) := by
          have := MA10.out.own
          rw [LL10.out] at this
          exact this
        have HL10 : Hid (SRd ndE (w10.alloc (.cells #[.int .i64 5, .int .i64 1, .string ⟨#[]⟩, .slice none 0 0, .int .i64 0, .int .i64 0, .int .i64 0, .slice none 0 0, .bool false, .int .i64 1] 37)) (some ⟨w10.heap.size, 0, none⟩) [(aggN 1 0 [], (none, 0, 0), (none, 0, 0))]) := lit_rd ndE w10 37 [(aggN 1 0 [], (none, 0, 0), (none, 0, 0))]
        go_wp2_with (at_builtin; refine wpList_append_s ndT (by rfl) (.tmp 143) (.tmp 145) (by rfl) w.heap.size (.slice b10 n1 d10) n1 L10 (by rfl) ?hown (some ⟨w10.heap.size, 0, none⟩) [(aggN 1 0 [], (none, 0, 0), (none, 0, 0))] 1 1 (by rfl) (by rfl) ?hrd (by simp) (by omega) (by unfold maxLen; omega) ?hb ?_)
        case hown => exact HO10.out
        case hrd => exact HL10.out
        case hb => first | exact MA10.out.up.size | (have h9 := MA10.out.up.size; rw [size_alloc] at h9; exact h9)
        intro v10 v10w ho10 hg10 hn10
        have MB10 : NsMk w v10w v10 (L10 ++ [(aggN 1 0 [], (none, 0, 0), (none, 0, 0))]) := MA10.out.one rfl rfl (by rw [LL10.out]; exact ho10) hg10
        have EB10 : Hid ((L10 ++ [(aggN 1 0 [], (none, 0, 0), (none, 0, 0))] : List Row).map (·.1) = Q1.map (·.1) ++ [aggN 1 0 []]) := by show _ = _; rw [List.map_append, E10.out]; rfl
        obtain ⟨ba10, da10, hv10⟩ := MB10.slN (n := n1 + 1) (by rw [List.length_append, LL10.out]; rfl)
        subst hv10
        have MB10 := hid MB10
        have GB10 := hid MB10.out.up
        clear ho10 hg10 hn10 HO10 HL10 MA10 M10 E10
        go_wp2_with fail
        refine (HCN.out _ (n1 + 1) (by rw [List.length_append, EL1.out]; rfl) (by omega) _ _ _ HA.out _ _ _ _ MB10.out EB10.out).mono ?_
        rintro e w11 ⟨rfl, g11⟩
        have G11 := hid (GB10.out.trans g11)
        clear g11 MB10 EB10 GB10 LL10
        go_wp2_with fail
        refine (CP1.out _ G11.out).mono ?_
        rintro e w12 ⟨b12, d12, L12, rfl, M12, E12⟩
        have LL12 : Hid (L12.length = n1) := M12.out.rds.2.symm
        have MA12 : Hid (NsMk w (w12.alloc (.cells #[.int .i64 4, .int .i64 1, .string ⟨#[]⟩, .slice none 0 0, .int .i64 0, .int .i64 0, .int .i64 0, .slice none 0 0, .bool false, .int .i64 1] 37)) (.slice b12 n1 d12) L12) := M12.out.grown (World.grownBy_alloc _ _ none)
        have HO12 : Hid (SOwn ndE 37 (w12.alloc (.cells #[.int .i64 4, .int .i64 1, .string ⟨#[]⟩, .slice none 0 0, .int .i64 0, .int .i64 0, .int .i64 0, .slice none 0 0, .bool false, .int .i64 1] 37)) w.heap.size (.slice b12 n1 d12) n1 L12) := by
          have := MA12.out.own
          rw [LL12.out] at this
          exact this
        have HL12 : Hid (SRd ndE (w12.alloc (.cells #[.int .i64 4, .int .i64 1, .string ⟨#[]⟩, .slice none 0 0, .int .i64 0, .int .i64 0, .int .i64 0, .slice none 0 0, .bool false, .int .i64 1] 37)) (some ⟨w12.heap.size, 0, none⟩) [(callN 1, (none, 0, 0), (none, 0, 0))]) := lit_rd ndE w12 37 [(callN 1, (none, 0, 0), (none, 0, 0))]
        go_wp2_with (at_builtin; refine wpList_append_s ndT (by rfl) (.tmp 153) (.tmp 155) (by rfl) w.heap.size (.slice b12 n1 d12) n1 L12 (by rfl) ?hown (some ⟨w12.heap.size, 0, none⟩) [(callN 1, (none, 0, 0), (none, 0, 0))] 1 1 (by rfl) (by rfl) ?hrd (by simp) (by omega) (by unfold maxLen; omega) ?hb ?_)
        case hown => exact HO12.out
        case hrd => exact HL12.out
        case hb => first | exact MA12.out.up.size | (have h9 := MA12.out.up.size; rw [size_alloc] at h9; exact h9)
        intro v12 v12w ho12 hg12 hn12
        have MB12 : NsMk w v12w v12 (L12 ++ [(callN 1, (none, 0, 0), (none, 0, 0))]) := MA12.out.one rfl rfl (by rw [LL12.out]; exact ho12) hg12
        have EB12 : Hid ((L12 ++ [(callN 1, (none, 0, 0), (none, 0, 0))] : List Row).map (·.1) = Q1.map (·.1) ++ [callN 1]) := by show _ = _; rw [List.map_append, E12.out]; rfl
        obtain ⟨ba12, da12, hv12⟩ := MB12.slN (n := n1 + 1) (by rw [List.length_append, LL12.out]; rfl)
        subst hv12
        have MB12 := hid MB12
        have GB12 := hid MB12.out.up
        clear ho12 hg12 hn12 HO12 HL12 MA12 M12 E12
        go_wp2_with fail
        refine (HCN.out _ (n1 + 1) (by rw [List.length_append, EL1.out]; rfl) (by omega) _ _ _ HB.out _ _ _ _ MB12.out EB12.out).mono ?_
        rintro e w13 ⟨rfl, g13⟩
        have G13 := hid (GB12.out.trans g13)
        clear g13 MB12 EB12 GB12 LL12
        go_wp2_with fail
        refine (CP1.out _ G13.out).mono ?_
        rintro e w14 ⟨b14, d14, L14, rfl, M14, E14⟩
        have LL14 : Hid (L14.length = n1) := M14.out.rds.2.symm
        have MA14 : Hid (NsMk w (w14.alloc (.cells #[.int .i64 7, .int .i64 0, .string ⟨#[]⟩, .slice none 0 0, .int .i64 0, .int .i64 0, .int .i64 0, .slice none 0 0, .bool false, .int .i64 1] 37)) (.slice b14 n1 d14) L14) := M14.out.grown (World.grownBy_alloc _ _ none)
        have HO14 : Hid (SOwn ndE 37 (w14.alloc (.cells #[.int .i64 7, .int .i64 0, .string ⟨#[]⟩, .slice none 0 0, .int .i64 0, .int .i64 0, .int .i64 0, .slice none 0 0, .bool false, .int .i64 1] 37)) w.heap.size (.slice b14 n1 d14) n1 L14) := by
          have := MA14.out.own
          rw [LL14.out] at this
          exact this
        have HL14 : Hid (SRd ndE (w14.alloc (.cells #[.int .i64 7, .int .i64 0, .string ⟨#[]⟩, .slice none 0 0, .int .i64 0, .int .i64 0, .int .i64 0, .slice none 0 0, .bool false, .int .i64 1] 37)) (some ⟨w14.heap.size, 0, none⟩) [(negN, (none, 0, 0), (none, 0, 0))]) := lit_rd ndE w14 37 [(negN, (none, 0, 0), (none, 0, 0))]
        go_wp2_with (at_builtin; refine wpList_append_s ndT (by rfl) (.tmp 163) (.tmp 165) (by rfl) w.heap.size (.slice b14 n1 d14) n1 L14 (by rfl) ?hown (some ⟨w14.heap.size, 0, none⟩) [(negN, (none, 0, 0), (none, 0, 0))] 1 1 (by rfl) (by rfl) ?hrd (by simp) (by omega) (by unfold maxLen; omega) ?hb ?_)
        case hown => exact HO14.out
        case hrd => exact HL14.out
        case hb => first | exact MA14.out.up.size | (have h9 := MA14.out.up.size; rw [size_alloc] at h9; exact h9)
        intro v14 v14w ho14 hg14 hn14
        have MB14 : NsMk w v14w v14 (L14 ++ [(negN, (none, 0, 0), (none, 0, 0))]) := MA14.out.one rfl rfl (by rw [LL14.out]; exact ho14) hg14
        have EB14 : Hid ((L14 ++ [(negN, (none, 0, 0), (none, 0, 0))] : List Row).map (·.1) = Q1.map (·.1) ++ [negN]) := by show _ = _; rw [List.map_append, E14.out]; rfl
        obtain ⟨ba14, da14, hv14⟩ := MB14.slN (n := n1 + 1) (by rw [List.length_append, LL14.out]; rfl)
        subst hv14
        have MB14 := hid MB14
        have GB14 := hid MB14.out.up
        clear ho14 hg14 hn14 HO14 HL14 MA14 M14 E14
        go_wp2_with fail
        refine (HCN.out _ (n1 + 1) (by rw [List.length_append, EL1.out]; rfl) (by omega) _ _ _ HC.out _ _ _ _ MB14.out EB14.out).mono ?_
        rintro e w15 ⟨rfl, g15⟩
        have G15 := hid (GB14.out.trans g15)
        clear g15 MB14 EB14 GB14 LL14
        go_wp2_with fail
        refine (HAW.out _).mono ?_
        rintro e w9 ⟨rfl, g9⟩
        have G9 := hid (G15.out.trans g9)
        clear g9
        go_wp2
        go_ret
        exact ⟨rfl, G9.out⟩
      · have p5 : decide (5 ≤ k) = true := by simp; omega
        have p10 : decide (k ≤ 10) = false := by simp; omega
        have p11 : decide (k < 11) = false := by simp; omega
        have hj : jnB 2 3 k = false := by unfold jnB; rw [p5, p10, p11]; rfl
        obtain ⟨rfl, rfl⟩ : z = 0 ∧ g = 192 := by
          have := HZ2.out
          rw [hj] at this
          simp at this
          exact ⟨this.1, this.2.2⟩
        obtain rfl : zC = 2 := by
          rcases HZC.out with h9 | h9
          · exact absurd h9 (by decide)
          · exact h9
        clear hj
        go_wp2_with fail
        refine (CP1.out _ G8.out).mono ?_
        rintro e w10 ⟨b10, d10, L10, rfl, M10, E10⟩
        have LL10 : Hid (L10.length = n1) := M10.out.rds.2.symm
        have MA10 : Hid (NsMk w (w10.alloc (.cells #[.int .i64 5, .int .i64 1, .string ⟨#[]⟩, .slice none 0 0, .int .i64 0, .int .i64 0, .int .i64 0, .slice none 0 0, .bool false, .int .i64 1] 37)) (.slice b10 n1 d10) L10) := M10.out.grown (World.grownBy_alloc _ _ none)
        have HO10 : Hid (SOwn ndE 37 (w10.alloc (.cells #[.int .i64 5, .int .i64 1, .string ⟨#[]⟩, .slice none 0 0, .int .i64 0, .int .i64 0, .int .i64 0, .slice none 0 0, .bool false, .int .i64 1] 37)) w.heap.size (.slice b10 n1 d10) n1 L10) := by
          have := MA10.out.own
          rw [LL10.out] at this
          exact this
        have HL10 : Hid (SRd ndE (w10.alloc (.cells #[.int .i64 5, .int .i64 1, .string ⟨#[]⟩, .slice none 0 0, .int .i64 0, .int .i64 0, .int .i64 0, .slice none 0 0, .bool false, .int .i64 1] 37)) (some ⟨w10.heap.size, 0, none⟩) [(aggN 1 0 [], (none, 0, 0), (none, 0, 0))]) := lit_rd ndE w10 37 [(aggN 1 0 [], (none, 0, 0), (none, 0, 0))]
        go_wp2_with (at_builtin; refine wpList_append_s ndT (by rfl) (.tmp 143) (.tmp 145) (by rfl) w.heap.size (.slice b10 n1 d10) n1 L10 (by rfl) ?hown (some ⟨w10.heap.size, 0, none⟩) [(aggN 1 0 [], (none, 0, 0), (none, 0, 0))] 1 1 (by rfl) (by rfl) ?hrd (by simp) (by omega) (by unfold maxLen; omega) ?hb ?_)
        case hown => exact HO10.out
        case hrd => exact HL10.out
        case hb => first | exact MA10.out.up.size | (have h9 := MA10.out.up.size; rw [size_alloc] at h9; exact h9)
        intro v10 v10w ho10 hg10 hn10
        have MB10 : NsMk w v10w v10 (L10 ++ [(aggN 1 0 [], (none, 0, 0), (none, 0, 0))]) := MA10.out.one rfl rfl (by rw [LL10.out]; exact ho10) hg10
        have EB10 : Hid ((L10 ++ [(aggN 1 0 [], (none, 0, 0), (none, 0, 0))] : List Row).map (·.1) = Q1.map (·.1) ++ [aggN 1 0 []]) := by show _ = _; rw [List.map_append, E10.out]; rfl
        obtain ⟨ba10, da10, hv10⟩ := MB10.slN (n := n1 + 1) (by rw [List.length_append, LL10.out]; rfl)
        subst hv10
        have MB10 := hid MB10
        have GB10 := hid MB10.out.up
        clear ho10 hg10 hn10 HO10 HL10 MA10 M10 E10
        go_wp2_with fail
        refine (HCN.out _ (n1 + 1) (by rw [List.length_append, EL1.out]; rfl) (by omega) _ _ _ HA.out _ _ _ _ MB10.out EB10.out).mono ?_
        rintro e w11 ⟨rfl, g11⟩
        have G11 := hid (GB10.out.trans g11)
        clear g11 MB10 EB10 GB10 LL10
        go_wp2_with fail
        refine (CP1.out _ G11.out).mono ?_
        rintro e w12 ⟨b12, d12, L12, rfl, M12, E12⟩
        have LL12 : Hid (L12.length = n1) := M12.out.rds.2.symm
        have MA12 : Hid (NsMk w (w12.alloc (.cells #[.int .i64 4, .int .i64 1, .string ⟨#[]⟩, .slice none 0 0, .int .i64 0, .int .i64 0, .int .i64 0, .slice none 0 0, .bool false, .int .i64 1] 37)) (.slice b12 n1 d12) L12) := M12.out.grown (World.grownBy_alloc _ _ none)
        have HO12 : Hid (SOwn ndE 37 (w12.alloc (.cells #[.int .i64 4, .int .i64 1, .string ⟨#[]⟩, .slice none 0 0, .int .i64 0, .int .i64 0, .int .i64 0, .slice none 0 0, .bool false, .int .i64 1] 37)) w.heap.size (.slice b12 n1 d12) n1 L12) := by
          have := MA12.out.own
          rw [LL12.out] at this
          exact this
        have HL12 : Hid (SRd ndE (w12.alloc (.cells #[.int .i64 4, .int .i64 1, .string ⟨#[]⟩, .slice none 0 0, .int .i64 0, .int .i64 0, .int .i64 0, .slice none 0 0, .bool false, .int .i64 1] 37)) (some ⟨w12.heap.size, 0, none⟩) [(callN 1, (none, 0, 0), (none, 0, 0))]) := lit_rd ndE w12 37 [(callN 1, (none, 0, 0), (none, 0, 0))]
        go_wp2_with (at_builtin; refine wpList_append_s ndT (by rfl) (.tmp 153) (.tmp 155) (by rfl) w.heap.size (.slice b12 n1 d12) n1 L12 (by rfl) ?hown (some ⟨w12.heap.size, 0, none⟩) [(callN 1, (none, 0, 0), (none, 0, 0))] 1 1 (by rfl) (by rfl) ?hrd (by simp) (by omega) (by unfold maxLen; omega) ?hb ?_)
        case hown => exact HO12.out
        case hrd => exact HL12.out
        case hb => first | exact MA12.out.up.size | (have h9 := MA12.out.up.size; rw [size_alloc] at h9; exact h9)
        intro v12 v12w ho12 hg12 hn12
        have MB12 : NsMk w v12w v12 (L12 ++ [(callN 1, (none, 0, 0), (none, 0, 0))]) := MA12.out.one rfl rfl (by rw [LL12.out]; exact ho12) hg12
        have EB12 : Hid ((L12 ++ [(callN 1, (none, 0, 0), (none, 0, 0))] : List Row).map (·.1) = Q1.map (·.1) ++ [callN 1]) := by show _ = _; rw [List.map_append, E12.out]; rfl
        obtain ⟨ba12, da12, hv12⟩ := MB12.slN (n := n1 + 1) (by rw [List.length_append, LL12.out]; rfl)
        subst hv12
        have MB12 := hid MB12
        have GB12 := hid MB12.out.up
        clear ho12 hg12 hn12 HO12 HL12 MA12 M12 E12
        go_wp2_with fail
        refine (HCN.out _ (n1 + 1) (by rw [List.length_append, EL1.out]; rfl) (by omega) _ _ _ HB.out _ _ _ _ MB12.out EB12.out).mono ?_
        rintro e w13 ⟨rfl, g13⟩
        have G13 := hid (GB12.out.trans g13)
        clear g13 MB12 EB12 GB12 LL12
        go_wp2_with fail
        refine (CP1.out _ G13.out).mono ?_
        rintro e w14 ⟨b14, d14, L14, rfl, M14, E14⟩
        have LL14 : Hid (L14.length = n1) := M14.out.rds.2.symm
        have MA14 : Hid (NsMk w (w14.alloc (.cells #[.int .i64 7, .int .i64 0, .string ⟨#[]⟩, .slice none 0 0, .int .i64 0, .int .i64 0, .int .i64 0, .slice none 0 0, .bool false, .int .i64 1] 37)) (.slice b14 n1 d14) L14) := M14.out.grown (World.grownBy_alloc _ _ none)
        have HO14 : Hid (SOwn ndE 37 (w14.alloc (.cells #[.int .i64 7, .int .i64 0, .string ⟨#[]⟩, .slice none 0 0, .int .i64 0, .int .i64 0, .int .i64 0, .slice none 0 0, .bool false, .int .i64 1] 37)) w.heap.size (.slice b14 n1 d14) n1 L14) := by
          have := MA14.out.own
          rw [LL14.out] at this
          exact this
        have HL14 : Hid (SRd ndE (w14.alloc (.cells #[.int .i64 7, .int .i64 0, .string ⟨#[]⟩, .slice none 0 0, .int .i64 0, .int .i64 0, .int .i64 0, .slice none 0 0, .bool false, .int .i64 1] 37)) (some ⟨w14.heap.size, 0, none⟩) [(negN, (none, 0, 0), (none, 0, 0))]) := lit_rd ndE w14 37 [(negN, (none, 0, 0), (none, 0, 0))]
        go_wp2_with (at_builtin; refine wpList_append_s ndT (by rfl) (.tmp 163) (.tmp 165) (by rfl) w.heap.size (.slice b14 n1 d14) n1 L14 (by rfl) ?hown (some ⟨w14.heap.size, 0, none⟩) [(negN, (none, 0, 0), (none, 0, 0))] 1 1 (by rfl) (by rfl) ?hrd (by simp) (by omega) (by unfold maxLen; omega) ?hb ?_)
        case hown => exact HO14.out
        case hrd => exact HL14.out
        case hb => first | exact MA14.out.up.size | (have h9 := MA14.out.up.size; rw [size_alloc] at h9; exact h9)
        intro v14 v14w ho14 hg14 hn14
        have MB14 : NsMk w v14w v14 (L14 ++ [(negN, (none, 0, 0), (none, 0, 0))]) := MA14.out.one rfl rfl (by rw [LL14.out]; exact ho14) hg14
        have EB14 : Hid ((L14 ++ [(negN, (none, 0, 0), (none, 0, 0))] : List Row).map (·.1) = Q1.map (·.1) ++ [negN]) := by show _ = _; rw [List.map_append, E14.out]; rfl
        obtain ⟨ba14, da14, hv14⟩ := MB14.slN (n := n1 + 1) (by rw [List.length_append, LL14.out]; rfl)
        subst hv14
        have MB14 := hid MB14
        have GB14 := hid MB14.out.up
        clear ho14 hg14 hn14 HO14 HL14 MA14 M14 E14
        go_wp2_with fail
        refine (HCN.out _ (n1 + 1) (by rw [List.length_append, EL1.out]; rfl) (by omega) _ _ _ HC.out _ _ _ _ MB14.out EB14.out).mono ?_
        rintro e w15 ⟨rfl, g15⟩
        have G15 := hid (GB14.out.trans g15)
        clear g15 MB14 EB14 GB14 LL14
        go_wp2_with fail
        refine (HAW.out _).mono ?_
        rintro e w9 ⟨rfl, g9⟩
        have G9 := hid (G15.out.trans g9)
        clear g9
        go_wp2
        go_ret
        exact ⟨rfl, G9.out⟩
end Go.Proofs.YthbodkgcbfplgaaGreat
