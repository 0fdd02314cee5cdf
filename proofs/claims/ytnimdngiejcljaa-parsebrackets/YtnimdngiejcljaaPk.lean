/- Package parse: isKept. -/
import Derived.Test.YtnimdngiejcljaaPj
namespace Go.Proofs.Ytnimdngiejcljaa
open Go.RowKit
set_option linter.unusedVariables false
set_option linter.unusedSimpArgs false
set_option maxRecDepth 20000

theorem tl_bool : boolS.toList = [98, 111, 111, 108] := by first | rfl | simp [boolS] | decide
theorem tl_off : offS.toList = [111, 102, 102, 115, 101, 116] := by first | rfl | simp [offS] | decide
theorem f_kept (q : Tok) (w : World) : Calls Try.prog 82 #[tkV q] w fun e w' => e = .returned (.bool (keptB q)) ∧ w.grownBy w' none := by
  obtain ⟨kd, at_, t, sp⟩ := q
  have HG := hid (World.grownBy_alloc w (.cells #[.int .i64 kd, .int .i64 at_, .string t, .int .i64 sp] 52) none)
  have HB := hid (heap_alloc_new w (.cells #[.int .i64 kd, .int .i64 at_, .string t, .int .i64 sp] 52))
  unfold tkV
  go_enter Try.func82, Try.ntmps82
  go_wp2_with fail
  refine (f_funcs _).mono ?_
  rintro e w1 ⟨a1, c1, rfl, h1, g1⟩
  have K1 : Hid (KeptAt (kd, at_, t, sp) 0 w1 (.slice a1 funcsR.length c1)) := kept_of rfl h1 (by decide)
  have G1 : Hid ((w.alloc (.cells #[.int .i64 kd, .int .i64 at_, .string t, .int .i64 sp] 52)).grownBy w1 none) := g1
  generalize funcsR.length = n1 at K1 ⊢
  clear h1 g1
  go_wp2_with fail
  refine (f_aggs _).mono ?_
  rintro e w2 ⟨a2, c2, rfl, h2, g2⟩
  have K2 : Hid (KeptAt (kd, at_, t, sp) 1 w2 (.slice a2 aggsR.length c2)) := kept_of rfl h2 (by decide)
  have K1' : Hid (KeptAt (kd, at_, t, sp) 0 w2 (.slice a1 n1 c1)) := K1.out.grown g2
  have G2 := hid (G1.out.trans g2)
  generalize aggsR.length = n2 at K2 ⊢
  clear h2 g2 K1 G1
  go_wp2_with fail
  refine (f_ops _).mono ?_
  rintro e w3 ⟨a3, c3, rfl, h3, g3⟩
  have K3 : Hid (KeptAt (kd, at_, t, sp) 2 w3 (.slice a3 opsR.length c3)) := kept_of rfl h3 (by decide)
  have K1 : Hid (KeptAt (kd, at_, t, sp) 0 w3 (.slice a1 n1 c1)) := K1'.out.grown g3
  have K2' : Hid (KeptAt (kd, at_, t, sp) 1 w3 (.slice a2 n2 c2)) := K2.out.grown g3
  have G3 := hid (G2.out.trans g3)
  generalize opsR.length = n3 at K3 ⊢
  clear h3 g3 K1' K2 G2
  go_wp2_with fail
  refine (f_grps _).mono ?_
  rintro e w4 ⟨a4, c4, rfl, h4, g4⟩
  have K4 : Hid (KeptAt (kd, at_, t, sp) 3 w4 (.slice a4 grpsR.length c4)) := kept_of rfl h4 (by decide)
  have K1' : Hid (KeptAt (kd, at_, t, sp) 0 w4 (.slice a1 n1 c1)) := K1.out.grown g4
  have K2 : Hid (KeptAt (kd, at_, t, sp) 1 w4 (.slice a2 n2 c2)) := K2'.out.grown g4
  have K3' : Hid (KeptAt (kd, at_, t, sp) 2 w4 (.slice a3 n3 c3)) := K3.out.grown g4
  have G4 := hid (G3.out.trans g4)
  generalize grpsR.length = n4 at K4 ⊢
  clear h4 g4 K1 K2' K3 G3
  go_wp2_with fail
  go_loopw [10] (fun t10 wr => ∃ k : Nat, k ≤ 4 ∧ t10 = .int .i64 (k : Int) ∧ w4.grownBy wr none ∧ Hid (∀ j, j < k → numIn (keptRow j) (kd, at_, t, sp) = 0)) (fun t10 _ => 4 - (intOf t10).toNat)
  case atStart => exact ⟨0, by omega, rfl, World.grownBy.refl _ _, fun j hj => by omega⟩
  case round =>
    obtain ⟨k, hk, rfl, hg, HN⟩ := hrel
    have GR := hid hg
    obtain ⟨z0, z1, z2, z3⟩ := cell4 (((G4.out.trans hg).block w.heap.size (by simp) (by simp)).trans HB.out)
    have i1 := fun W => (idx92 (.slice a1 n1 c1) (.slice a2 n2 c2) (.slice a3 n3 c3) (.slice a4 n4 c4) W).1
    have i2 := fun W => (idx92 (.slice a1 n1 c1) (.slice a2 n2 c2) (.slice a3 n3 c3) (.slice a4 n4 c4) W).2.1
    have i3 := fun W => (idx92 (.slice a1 n1 c1) (.slice a2 n2 c2) (.slice a3 n3 c3) (.slice a4 n4 c4) W).2.2.1
    have i4 := fun W => (idx92 (.slice a1 n1 c1) (.slice a2 n2 c2) (.slice a3 n3 c3) (.slice a4 n4 c4) W).2.2.2
    clear hg
    by_cases hlt : k < 4
    · have hki : (k : Int) < 4 := by omega
      obtain ⟨vk, ek, HK⟩ : ∃ vk, Hid (∀ W, (Instr.index 92 (.agg #[(.slice a1 n1 c1), (.slice a2 n2 c2), (.slice a3 n3 c3), (.slice a4 n4 c4)]) (.int .i64 (k : Int))).run Try.prog W = .ok vk W) ∧ Hid (KeptAt (kd, at_, t, sp) k w4 vk) := by
        have hk4 : k = 0 ∨ k = 1 ∨ k = 2 ∨ k = 3 := by omega
        rcases hk4 with rfl | rfl | rfl | rfl
        · exact ⟨_, i1, K1'⟩
        · exact ⟨_, i2, K2⟩
        · exact ⟨_, i3, K3'⟩
        · exact ⟨_, i4, K4⟩
      have ek2 := ek.out
      have HC := hid (HK.out wr GR.out)
      unfold tkV at HC
      clear i1 i2 i3 i4 ek HK
      by_cases h0 : numIn (keptRow k) (kd, at_, t, sp) = 0
      · rw [h0] at HC
        have HN2 : Hid (∀ j, j < k + 1 → numIn (keptRow j) (kd, at_, t, sp) = 0) := fun j hj => by
          by_cases h : j = k
          · rw [h]; exact h0
          · exact HN.out j (by omega)
        clear h0
        go_wp2_with fail
        refine HC.out.mono ?_
        rintro e w5 ⟨rfl, g5⟩
        have G5 : Hid (w4.grownBy w5 none) := GR.out.trans g5
        clear g5
        go_wp2
        go_roundw
        case rel => exact ⟨k + 1, by omega, by go_num, G5.out, HN2⟩
        case measure => simp [intOf]; omega
      · have q0 : (numIn (keptRow k) (kd, at_, t, sp) != 0) = true := by simpa using h0
        have HT : Hid (keptB (kd, at_, t, sp) = true) := kept_some hlt h0
        generalize numIn (keptRow k) (kd, at_, t, sp) = n at HC q0
        clear h0
        go_wp2_with fail
        refine HC.out.mono ?_
        rintro e w5 ⟨rfl, g5⟩
        have G5 : Hid (w4.grownBy w5 none) := GR.out.trans g5
        clear g5
        go_wp2
        go_ret
        exact ⟨by rw [HT.out]; rfl, (HG.out.trans G4.out).trans G5.out⟩
    · have hki : ¬ (k : Int) < 4 := by omega
      have HT : Hid (keptB (kd, at_, t, sp) = (decide (t = boolS) || decide (t = offS))) := kept_none (fun j hj => HN.out j (by omega))
      have G5 : Hid (w.grownBy wr none) := (HG.out.trans G4.out).trans GR.out
      have s2 := hid (str_eq t offS)
      rw [tl_off] at s2
      clear i1 i2 i3 i4
      cases hb : decide (t = boolS) with
      | true =>
        have q1 : (t.toList == [98, 111, 111, 108]) = true := by rw [← tl_bool, str_eq]; exact hb
        have HT2 : Hid (keptB (kd, at_, t, sp) = true) := by show _ = _; rw [HT.out, hb]; rfl
        clear hb HT
        go_wp2
        go_ret
        exact ⟨by rw [HT2.out]; rfl, G5.out⟩
      | false =>
        have q1 : (t.toList == [98, 111, 111, 108]) = false := by rw [← tl_bool, str_eq]; exact hb
        have HT2 : Hid (keptB (kd, at_, t, sp) = decide (t = offS)) := by show _ = _; rw [HT.out, hb]; rfl
        clear hb HT
        go_wp2
        go_ret
        exact ⟨ret_bool (by rw [HT2.out]; exact s2.out), G5.out⟩
end Go.Proofs.Ytnimdngiejcljaa
