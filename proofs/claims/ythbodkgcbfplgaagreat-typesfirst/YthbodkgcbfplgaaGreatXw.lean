/- TypesFirst: the walk. -/
import Derived.Test.YthbodkgcbfplgaaGreatXf
namespace Go.Proofs.YthbodkgcbfplgaaGreat
open Go.ChangeShapes Go.WideShapes Go.ChangeAt Go.RowKit
set_option linter.unusedVariables false
set_option linter.unusedSimpArgs false
set_option maxRecDepth 20000

set_option maxHeartbeats 16000000 in
theorem typesFirst_walk (a1 : Option Addr) (c1 : Nat) (Q1 : List Row) (a2 : Option Addr) (c2 : Nat) (Q2 : List Row) (w : World) (h1 : NsIn w a1 c1 Q1) (h2 : NsIn w a2 c2 Q2) :
    Calls Tryz.prog 5 #[.slice a1 Q1.length c1, .slice a2 Q2.length c2] w fun e w' => e = .returned (.bool true) ∧ w.grownBy w' none := by
  have HAW := hid f_awake
  have z1 := h1.le
  have z2 := h2.le
  simp only [reachBytes] at z1 z2
  have l1 : (Q1.map (·.1)).length = Q1.length := List.length_map _
  have l2 : (Q2.map (·.1)).length = Q2.length := List.length_map _
  obtain ⟨⟨k1, i1, e1⟩, hC1⟩ : ∃ C, chkT (Q1.map (·.1)) = C := ⟨_, rfl⟩
  obtain ⟨⟨k2, i2, e2⟩, hC2⟩ : ∃ C, chkT (Q2.map (·.1)) = C := ⟨_, rfl⟩
  have H1 := hid h1
  have H2 := hid h2
  have CP1 := hid (c_copy h1)
  have CP2 := hid (c_copy h2)
  have CK1 := hid (c_check (W0 := w) l1 (by omega) hC1)
  have CK2 := hid (c_check (W0 := w) l2 (by omega) hC2)
  have HT1 := hid (chk_tree hC1)
  have HT2 := hid (chk_tree hC2)
  have HF := hid (fun he hi => chk_first (B := Q2.map (·.1)) hC1 he hi)
  have HB := hid (fun he he2 => chk_two hC1 he hC2 he2)
  have HSUM : Hid (∀ m n f, chkT (Q1.map (·.1) ++ Q2.map (·.1)) = (m, n, f) → ∀ (V : World) (a : Option Addr) (c : Nat) (L : List Row), NsMk w V (.slice a (Q1.length + Q2.length) c) L → L.map (·.1) = Q1.map (·.1) ++ Q2.map (·.1) → Calls Tryz.prog 9 #[.slice a (Q1.length + Q2.length) c] V fun e9 w' => e9 = .returned (.tuple #[.int .i64 m, .int .i64 n, .int .i64 f]) ∧ V.grownBy w' none) :=
    fun m n f hC => c_check (W0 := w) (by rw [List.length_append, l1, l2]) (by omega) hC
  obtain ⟨n1, en1⟩ : ∃ n, Q1.length = n := ⟨_, rfl⟩
  obtain ⟨n2, en2⟩ : ∃ n, Q2.length = n := ⟨_, rfl⟩
  have EN1 := hid en1
  have EN2 := hid en2
  rw [en1] at z1 CP1 CK1 HSUM l1 ⊢
  rw [en2] at z2 CP2 CK2 HSUM l2 ⊢
  rw [l1, l2] at HB
  rw [l1] at HF
  clear hC1 hC2 h1 h2 en1 en2 l1 l2
  by_cases hs : 4096 < n1 + n2
  · have b0 : (n1 : Int) ≤ 1172812402961 := by omega
    have b1 : (n2 : Int) ≤ 1172812402961 := by omega
    have b2 : 0 ≤ (n1 : Int) := by omega
    have b3 : 0 ≤ (n2 : Int) := by omega
    have q0 : decide ((4096 : Int) < (n1 : Int) + (n2 : Int)) = true := by simp; omega
    clear hs
    go_enter Tryz.func5, Tryz.ntmps5
    go_wp2_with fail
    refine (CP1.out w (World.grownBy.refl _ _)).mono ?_
    rintro e w1 ⟨b1, d1, L1, rfl, M1, E1⟩
    have G1 := hid M1.out.up
    go_wp2_with fail
    refine (CK1.out _ _ _ L1 M1.out E1.out).mono ?_
    rintro e w2 ⟨rfl, g2⟩
    have G2 := hid (G1.out.trans g2)
    clear g2 M1 E1
    go_wp2_with fail
    refine (HAW.out _).mono ?_
    rintro e w9 ⟨rfl, g9⟩
    have G9 := hid (G2.out.trans g9)
    clear g9
    go_wp2
    go_ret
    exact ⟨rfl, G9.out⟩
  · have q0 : decide ((4096 : Int) < (n1 : Int) + (n2 : Int)) = false := by simp; omega
    have b0 : (n1 : Int) + (n2 : Int) ≤ 4096 := by omega
    have b1 : 0 ≤ (n1 : Int) := by omega
    have b2 : 0 ≤ (n2 : Int) := by omega
    clear hs
    by_cases he : e1 = 0
    · subst he
      by_cases he2 : e2 = 0
      · subst he2
        have HC12 := hid (HB.out rfl rfl)
        obtain ⟨-, -, hk1, -⟩ := HT1.out rfl
        obtain ⟨-, -, hk2, -⟩ := HT2.out rfl
        have q5 : (k1 != 0) = true := by simp; omega
        have q6 : (k2 != 0) = true := by simp; omega
        clear hk1 hk2
        go_enter Tryz.func5, Tryz.ntmps5
        go_wp2_with fail
        refine (CP1.out w (World.grownBy.refl _ _)).mono ?_
        rintro e w1 ⟨b1, d1, L1, rfl, M1, E1⟩
        have G1 := hid M1.out.up
        go_wp2_with fail
        refine (CK1.out _ _ _ L1 M1.out E1.out).mono ?_
        rintro e w2 ⟨rfl, g2⟩
        have G2 := hid (G1.out.trans g2)
        clear g2 M1 E1
        go_wp2_with fail
        refine (CP1.out w2 G2.out).mono ?_
        rintro e w3 ⟨b3, d3, L3, rfl, M3, E3⟩
        have LL3 : Hid (L3.length = n1) := M3.out.rds.2.symm
        have HO3 : Hid (SOwn ndE 37 w3 w.heap.size (.slice b3 n1 d3) n1 L3) := by
          have := M3.out.own
          rw [LL3.out] at this
          exact this
        have HB3 : w.heap.size ≤ w3.heap.size := M3.out.up.size
        have HIN : Hid (NsIn w3 a2 c2 Q2) := H2.out.grown M3.out.up
        have hs3 : (n1 + n2) * 120 ≤ 140737488355328 := by omega
        go_wp2_with (at_builtin; refine wpList_append_s ndT (by rfl) (.tmp 30) (.tmp 31) (by rfl) w.heap.size (.slice b3 n1 d3) n1 L3 (by rfl) ?hown a2 Q2 n2 c2 (by rfl) EN2.out ?hrd HIN.out.nil hs3 (by unfold maxLen; omega) ?hb ?_)
        case hown => exact HO3.out
        case hrd => exact HIN.out.rd
        case hb => exact HB3
        intro v4 w4 ho4 hg4 hn4
        clear hn4
        have M4 : NsMk w w4 v4 (L3 ++ Q2) := M3.out.app (fun q hq => .inl (H2.out.each q hq).rd) (by rw [LL3.out, EN2.out]; exact ho4) hg4
        have E4 : Hid ((L3 ++ Q2).map (·.1) = Q1.map (·.1) ++ Q2.map (·.1)) := by show _ = _; rw [List.map_append, E3.out]
        have hl4 : (L3 ++ Q2).length = n1 + n2 := by rw [List.length_append, LL3.out, EN2.out]
        obtain ⟨b4, d4, hv4⟩ : ∃ b d, v4 = .slice b (n1 + n2) d := by
          obtain ⟨b, d, h⟩ := M4.sl
          exact ⟨b, d, by rw [h, hl4]⟩
        subst hv4
        have M4 := hid M4
        have G4 := hid M4.out.up
        clear ho4 hg4 hl4 hs3 HB3
        go_wp2_with fail
        refine (HSUM.out _ _ _ HC12.out _ _ _ _ M4.out E4.out).mono ?_
        rintro e w5 ⟨rfl, g5⟩
        have G5 := hid (G4.out.trans g5)
        clear g5 M4 E4 M3 E3 HO3 HIN LL3
        go_wp2_with fail
        refine (CP2.out w5 G5.out).mono ?_
        rintro e w6 ⟨b6, d6, L6, rfl, M6, E6⟩
        have G6 := hid M6.out.up
        go_wp2_with fail
        refine (CK2.out _ _ _ L6 M6.out E6.out).mono ?_
        rintro e w7 ⟨rfl, g7⟩
        have G7 := hid (G6.out.trans g7)
        clear g7 M6 E6
        go_wp2_with fail
        refine (HAW.out _).mono ?_
        rintro e w9 ⟨rfl, g9⟩
        have G9 := hid (G7.out.trans g9)
        clear g9
        go_wp2
        go_ret
        exact ⟨rfl, G9.out⟩
      · have q4 : (e2 == 0) = false := by simpa using he2
        obtain ⟨⟨m, n, f⟩, hC⟩ : ∃ C, chkT (Q1.map (·.1) ++ Q2.map (·.1)) = C := ⟨_, rfl⟩
        have HC12 := hid hC
        clear hC he2
        go_enter Tryz.func5, Tryz.ntmps5
        go_wp2_with fail
        refine (CP1.out w (World.grownBy.refl _ _)).mono ?_
        rintro e w1 ⟨b1, d1, L1, rfl, M1, E1⟩
        have G1 := hid M1.out.up
        go_wp2_with fail
        refine (CK1.out _ _ _ L1 M1.out E1.out).mono ?_
        rintro e w2 ⟨rfl, g2⟩
        have G2 := hid (G1.out.trans g2)
        clear g2 M1 E1
        go_wp2_with fail
        refine (CP1.out w2 G2.out).mono ?_
        rintro e w3 ⟨b3, d3, L3, rfl, M3, E3⟩
        have LL3 : Hid (L3.length = n1) := M3.out.rds.2.symm
        have HO3 : Hid (SOwn ndE 37 w3 w.heap.size (.slice b3 n1 d3) n1 L3) := by
          have := M3.out.own
          rw [LL3.out] at this
          exact this
        have HB3 : w.heap.size ≤ w3.heap.size := M3.out.up.size
        have HIN : Hid (NsIn w3 a2 c2 Q2) := H2.out.grown M3.out.up
        have hs3 : (n1 + n2) * 120 ≤ 140737488355328 := by omega
        go_wp2_with (at_builtin; refine wpList_append_s ndT (by rfl) (.tmp 30) (.tmp 31) (by rfl) w.heap.size (.slice b3 n1 d3) n1 L3 (by rfl) ?hown a2 Q2 n2 c2 (by rfl) EN2.out ?hrd HIN.out.nil hs3 (by unfold maxLen; omega) ?hb ?_)
        case hown => exact HO3.out
        case hrd => exact HIN.out.rd
        case hb => exact HB3
        intro v4 w4 ho4 hg4 hn4
        clear hn4
        have M4 : NsMk w w4 v4 (L3 ++ Q2) := M3.out.app (fun q hq => .inl (H2.out.each q hq).rd) (by rw [LL3.out, EN2.out]; exact ho4) hg4
        have E4 : Hid ((L3 ++ Q2).map (·.1) = Q1.map (·.1) ++ Q2.map (·.1)) := by show _ = _; rw [List.map_append, E3.out]
        have hl4 : (L3 ++ Q2).length = n1 + n2 := by rw [List.length_append, LL3.out, EN2.out]
        obtain ⟨b4, d4, hv4⟩ : ∃ b d, v4 = .slice b (n1 + n2) d := by
          obtain ⟨b, d, h⟩ := M4.sl
          exact ⟨b, d, by rw [h, hl4]⟩
        subst hv4
        have M4 := hid M4
        have G4 := hid M4.out.up
        clear ho4 hg4 hl4 hs3 HB3
        go_wp2_with fail
        refine (HSUM.out _ _ _ HC12.out _ _ _ _ M4.out E4.out).mono ?_
        rintro e w5 ⟨rfl, g5⟩
        have G5 := hid (G4.out.trans g5)
        clear g5 M4 E4 M3 E3 HO3 HIN LL3
        go_wp2_with fail
        refine (CP2.out w5 G5.out).mono ?_
        rintro e w6 ⟨b6, d6, L6, rfl, M6, E6⟩
        have G6 := hid M6.out.up
        go_wp2_with fail
        refine (CK2.out _ _ _ L6 M6.out E6.out).mono ?_
        rintro e w7 ⟨rfl, g7⟩
        have G7 := hid (G6.out.trans g7)
        clear g7 M6 E6
        go_wp2_with fail
        refine (HAW.out _).mono ?_
        rintro e w9 ⟨rfl, g9⟩
        have G9 := hid (G7.out.trans g9)
        clear g9
        go_wp2
        go_ret
        exact ⟨rfl, G9.out⟩
    · by_cases hi : i1 < (n1 : Int)
      · have q1 : (e1 != 0) = true := by simpa using he
        have q2 : decide (i1 < (n1 : Int)) = true := by simpa using hi
        have HC12 := hid (HF.out he hi).1
        have hi0 := (HF.out he hi).2
        clear he
        go_enter Tryz.func5, Tryz.ntmps5
        go_wp2_with fail
        refine (CP1.out w (World.grownBy.refl _ _)).mono ?_
        rintro e w1 ⟨b1, d1, L1, rfl, M1, E1⟩
        have G1 := hid M1.out.up
        go_wp2_with fail
        refine (CK1.out _ _ _ L1 M1.out E1.out).mono ?_
        rintro e w2 ⟨rfl, g2⟩
        have G2 := hid (G1.out.trans g2)
        clear g2 M1 E1
        go_wp2_with fail
        refine (CP1.out w2 G2.out).mono ?_
        rintro e w3 ⟨b3, d3, L3, rfl, M3, E3⟩
        have LL3 : Hid (L3.length = n1) := M3.out.rds.2.symm
        have HO3 : Hid (SOwn ndE 37 w3 w.heap.size (.slice b3 n1 d3) n1 L3) := by
          have := M3.out.own
          rw [LL3.out] at this
          exact this
        have HB3 : w.heap.size ≤ w3.heap.size := M3.out.up.size
        have HIN : Hid (NsIn w3 a2 c2 Q2) := H2.out.grown M3.out.up
        have hs3 : (n1 + n2) * 120 ≤ 140737488355328 := by omega
        go_wp2_with (at_builtin; refine wpList_append_s ndT (by rfl) (.tmp 30) (.tmp 31) (by rfl) w.heap.size (.slice b3 n1 d3) n1 L3 (by rfl) ?hown a2 Q2 n2 c2 (by rfl) EN2.out ?hrd HIN.out.nil hs3 (by unfold maxLen; omega) ?hb ?_)
        case hown => exact HO3.out
        case hrd => exact HIN.out.rd
        case hb => exact HB3
        intro v4 w4 ho4 hg4 hn4
        clear hn4
        have M4 : NsMk w w4 v4 (L3 ++ Q2) := M3.out.app (fun q hq => .inl (H2.out.each q hq).rd) (by rw [LL3.out, EN2.out]; exact ho4) hg4
        have E4 : Hid ((L3 ++ Q2).map (·.1) = Q1.map (·.1) ++ Q2.map (·.1)) := by show _ = _; rw [List.map_append, E3.out]
        have hl4 : (L3 ++ Q2).length = n1 + n2 := by rw [List.length_append, LL3.out, EN2.out]
        obtain ⟨b4, d4, hv4⟩ : ∃ b d, v4 = .slice b (n1 + n2) d := by
          obtain ⟨b, d, h⟩ := M4.sl
          exact ⟨b, d, by rw [h, hl4]⟩
        subst hv4
        have M4 := hid M4
        have G4 := hid M4.out.up
        clear ho4 hg4 hl4 hs3 HB3
        go_wp2_with fail
        refine (HSUM.out _ _ _ HC12.out _ _ _ _ M4.out E4.out).mono ?_
        rintro e w5 ⟨rfl, g5⟩
        have G5 := hid (G4.out.trans g5)
        clear g5 M4 E4 M3 E3 HO3 HIN LL3
        go_wp2_with fail
        refine (HAW.out _).mono ?_
        rintro e w9 ⟨rfl, g9⟩
        have G9 := hid (G5.out.trans g9)
        clear g9
        go_wp2
        go_ret
        exact ⟨rfl, G9.out⟩
      · have q1 : (e1 != 0) = true := by simpa using he
        have q3 : (e1 == 0) = false := by simpa using he
        have q2 : decide (i1 < (n1 : Int)) = false := by simpa using hi
        obtain ⟨⟨m, n, f⟩, hC⟩ : ∃ C, chkT (Q1.map (·.1) ++ Q2.map (·.1)) = C := ⟨_, rfl⟩
        have HC12 := hid hC
        clear he hi hC
        go_enter Tryz.func5, Tryz.ntmps5
        go_wp2_with fail
        refine (CP1.out w (World.grownBy.refl _ _)).mono ?_
        rintro e w1 ⟨b1, d1, L1, rfl, M1, E1⟩
        have G1 := hid M1.out.up
        go_wp2_with fail
        refine (CK1.out _ _ _ L1 M1.out E1.out).mono ?_
        rintro e w2 ⟨rfl, g2⟩
        have G2 := hid (G1.out.trans g2)
        clear g2 M1 E1
        go_wp2_with fail
        refine (CP1.out w2 G2.out).mono ?_
        rintro e w3 ⟨b3, d3, L3, rfl, M3, E3⟩
        have LL3 : Hid (L3.length = n1) := M3.out.rds.2.symm
        have HO3 : Hid (SOwn ndE 37 w3 w.heap.size (.slice b3 n1 d3) n1 L3) := by
          have := M3.out.own
          rw [LL3.out] at this
          exact this
        have HB3 : w.heap.size ≤ w3.heap.size := M3.out.up.size
        have HIN : Hid (NsIn w3 a2 c2 Q2) := H2.out.grown M3.out.up
        have hs3 : (n1 + n2) * 120 ≤ 140737488355328 := by omega
        go_wp2_with (at_builtin; refine wpList_append_s ndT (by rfl) (.tmp 30) (.tmp 31) (by rfl) w.heap.size (.slice b3 n1 d3) n1 L3 (by rfl) ?hown a2 Q2 n2 c2 (by rfl) EN2.out ?hrd HIN.out.nil hs3 (by unfold maxLen; omega) ?hb ?_)
        case hown => exact HO3.out
        case hrd => exact HIN.out.rd
        case hb => exact HB3
        intro v4 w4 ho4 hg4 hn4
        clear hn4
        have M4 : NsMk w w4 v4 (L3 ++ Q2) := M3.out.app (fun q hq => .inl (H2.out.each q hq).rd) (by rw [LL3.out, EN2.out]; exact ho4) hg4
        have E4 : Hid ((L3 ++ Q2).map (·.1) = Q1.map (·.1) ++ Q2.map (·.1)) := by show _ = _; rw [List.map_append, E3.out]
        have hl4 : (L3 ++ Q2).length = n1 + n2 := by rw [List.length_append, LL3.out, EN2.out]
        obtain ⟨b4, d4, hv4⟩ : ∃ b d, v4 = .slice b (n1 + n2) d := by
          obtain ⟨b, d, h⟩ := M4.sl
          exact ⟨b, d, by rw [h, hl4]⟩
        subst hv4
        have M4 := hid M4
        have G4 := hid M4.out.up
        clear ho4 hg4 hl4 hs3 HB3
        go_wp2_with fail
        refine (HSUM.out _ _ _ HC12.out _ _ _ _ M4.out E4.out).mono ?_
        rintro e w5 ⟨rfl, g5⟩
        have G5 := hid (G4.out.trans g5)
        clear g5 M4 E4 M3 E3 HO3 HIN LL3
        go_wp2_with fail
        refine (CP2.out w5 G5.out).mono ?_
        rintro e w6 ⟨b6, d6, L6, rfl, M6, E6⟩
        have G6 := hid M6.out.up
        go_wp2_with fail
        refine (CK2.out _ _ _ L6 M6.out E6.out).mono ?_
        rintro e w7 ⟨rfl, g7⟩
        have G7 := hid (G6.out.trans g7)
        clear g7 M6 E6
        go_wp2_with fail
        refine (HAW.out _).mono ?_
        rintro e w9 ⟨rfl, g9⟩
        have G9 := hid (G7.out.trans g9)
        clear g9
        go_wp2
        go_ret
        exact ⟨rfl, G9.out⟩
end Go.Proofs.YthbodkgcbfplgaaGreat
