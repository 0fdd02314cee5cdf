/- A number appended in two parts is the number appended at once: for every first byte, number, width and cut, with no condition. -/
import Derived.Test.YtmljokpghhfcjaaUse
namespace Go.Proofs.Ytmljokpghhfcjaa
open Go.ChangeShapes Go.WideShapes Go.ChangeAt Go.RowKit
set_option linter.unusedVariables false

/-- A number in two parts is the number at once. -/
theorem app_parts (zs : List Int) (n : Nat) (v : Int) (A C : Nat) (h : C ≤ A) : app (app zs n (v / 2 ^ C) (A - C)) (n + (A - C)) v C = app zs n v A := by
  refine app_eq (app_byte _ _ _ _) (by rw [app_len]; omega) fun i => ?_
  rw [app_bit]
  unfold appBit
  by_cases h1 : i < n
  · rw [if_pos (by omega), app_bit, appBit, if_pos h1, if_pos h1]
  · rw [if_neg h1]
    by_cases h2 : i < n + (A - C)
    · rw [if_pos h2, app_bit, appBit, if_neg h1, if_pos h2, if_pos (by omega)]
      rw [Int.ediv_ediv_of_nonneg (Int.le_of_lt (Int.pow_pos (by decide))), ← Int.pow_add]
      have e : C + (A - C - 1 - (i - n)) = A - 1 - (i - n) := by omega
      rw [e]
    · rw [if_neg h2]
      by_cases h3 : i < n + A
      · rw [if_pos (by omega), if_pos h3]
        have e : C - 1 - (i - (n + (A - C))) = A - 1 - (i - n) := by omega
        rw [e]
      · rw [if_neg (by omega), if_neg h3]

set_option maxHeartbeats 1000000 in
theorem bitsParts_walk (hd v x y : Int) (w0 : (Lit.int .u8 hd).wf = true) (w1 : (Lit.int .u64 v).wf = true) (w2 : (Lit.int .i64 x).wf = true) (w3 : (Lit.int .i64 y).wf = true) (W : World) :
    Calls Try.prog 6 #[.int .u8 hd, .int .u64 v, .int .i64 x, .int .i64 y] W fun e w' => e = .returned (.bool true) ∧ Below W.heap.size W w' := by
  have hhd := bounds_u8 w0
  have hv := bounds_u64 w1
  clear w0 w1 w2 w3
  go_enter Try.func6, Try.ntmps6
  go_wp2_with fail
  refine (Low_any _ _).mono ?_
  rintro e w' ⟨r, rfl, hr0, hr1, rfl⟩
  go_wp2_with fail
  obtain ⟨A, hA⟩ : ∃ A : Nat, r % 65 = A := ⟨(r % 65).toNat, by omega⟩
  have hA64 : A ≤ 64 := by omega
  rw [hA]
  refine (Low_any _ _).mono ?_
  rintro e w' ⟨s, rfl, hs0, hs1, rfl⟩
  clear hr0 hr1 hA
  go_wp2_with fail
  obtain ⟨C, hC, hCA⟩ : ∃ C : Nat, s % ((A : Int) + 1) = C ∧ C ≤ A := by
    have h1 := Int.emod_nonneg s (show (A : Int) + 1 ≠ 0 by omega)
    have h2 := Int.emod_lt_of_pos s (show (0 : Int) < (A : Int) + 1 by omega)
    exact ⟨(s % ((A : Int) + 1)).toNat, by omega, by omega⟩
  rw [hC]
  clear hC hs0 hs1
  refine (append_go none [] 0 0 0 5 0 5 5 hd W ⟨.inl rfl, by simp⟩ rfl (by omega) rfl rfl rfl (by omega) whole_nil (by omega)).mono ?_
  rintro e w1 ⟨g1, c1, N1, rfl, ho1, hg1⟩
  have hW1 := app_whole [] 0 hd 5
  obtain ⟨z1, ez1⟩ : ∃ z, z = app [] 0 hd 5 := ⟨_, rfl⟩
  rw [← ez1] at ho1 hW1
  have hl1 := app_len [] 0 hd 5
  rw [← ez1] at hl1
  have HW1 : Hid (wholeB z1 ((5 : Nat) : Int) = true) := hW1
  clear ez1 hW1
  go_wp2_with fail
  refine (append_go (some ⟨g1, 0, none⟩) z1 N1 c1 5 A 5 A (5 + A) v w1 ho1.rd ho1.len (by have := ho1.len; omega) rfl rfl rfl hv HW1.out hA64).mono ?_
  rintro e w2 ⟨g2, c2, N2, rfl, ho2, hg2⟩
  have ho1' := ho1.kept hg2 (by simp)
  go_wp2_with fail
  obtain ⟨D, hD⟩ : ∃ D : Nat, (A : Int) - (C : Int) = D := ⟨A - C, by omega⟩
  rw [hD]
  obtain ⟨u, hu⟩ : ∃ u, u = v / 2 ^ C := ⟨_, rfl⟩
  have hub := shr_bd v C hv
  rw [← hu] at hub ⊢
  have HU : Hid (u = v / 2 ^ C) := hu
  have HD : Hid (A = C + D) := by show _ = _; omega
  have hDC : D + C ≤ 64 := by omega
  clear hu hD
  have hN1 : N1 ≤ 2 := by have := ho1.len; omega
  refine (append_go (some ⟨g1, 0, none⟩) z1 N1 c1 5 D 5 D (5 + D) u w2 ho1'.rd ho1'.len (by omega) rfl rfl rfl hub HW1.out (by omega)).mono ?_
  rintro e w3 ⟨g3, c3, N3, rfl, ho3, hg3⟩
  have hN3 : N3 ≤ 20 := by have := ho3.len; rw [app_len] at this; omega
  have HW3 : Hid (wholeB (app z1 5 u D) ((5 + D : Nat) : Int) = true) := app_whole z1 5 u D
  have ho2' := ho2.kept hg3 (by simp)
  clear ho1 ho1' ho2
  go_wp2_with fail
  refine (append_go (some ⟨g3, 0, none⟩) (app z1 5 u D) N3 c3 (5 + D) C (5 + D) C (5 + D + C) v w3 ho3.rd ho3.len (by omega) (by omega) rfl (by omega) hv HW3.out (by omega)).mono ?_
  rintro e w4 ⟨g4, c4, N4, rfl, ho4, hg4⟩
  have ho2'' := ho2'.kept hg4 (by simp)
  have hg14 : W.grownBy w4 none := gb_trans (gb_trans (gb_trans hg1 hg2 (by simp)) hg3 (by simp)) hg4 (by simp)
  have hz3 : app (app z1 5 u D) (5 + D) v C = app z1 5 v A := by
    have h := app_parts z1 5 v A C hCA
    have e1 : A - C = D := by have := HD.out; omega
    rw [e1, ← HU.out] at h
    exact h
  rw [hz3] at ho4
  have hmj : ((5 : Int) + (A : Int) == 5 + (D : Int) + (C : Int)) = true := by simp; have := HD.out; omega
  have HW2 : Hid (wholeB (app z1 5 v A) ((5 : Int) + (A : Int)) = true) := app_whole z1 5 v A
  have hN2 : N2 ≤ 20 := by have := ho2''.len; rw [app_len] at this; omega
  clear hg1 hg2 hg3 hg4 ho2' ho3 hz3
  go_wp2_with fail
  refine (same_any (some ⟨g2, 0, none⟩) (some ⟨g4, 0, none⟩) (app z1 5 v A) (app z1 5 v A) N2 N4 c2 c4 w4 ho2''.rd ho4.rd ho2''.len ho4.len (by omega)).mono ?_
  rintro e w5 ⟨rfl, hg5⟩
  have htt : decide (app z1 5 v A = app z1 5 v A) = true := by simp
  rw [htt]
  have ho5 := ho2''.kept hg5 (by simp)
  have hg15 := gb_trans hg14 hg5 (by simp)
  clear htt hg5 hg14 ho4 ho2''
  go_wp2_with fail
  have hlen2 := ho5.len
  have hwh := whole_any (some ⟨g2, 0, none⟩) (app z1 5 v A) c2 (5 + A) w5 ho5.rd (by omega)
  rw [hlen2, HW2.out] at hwh
  refine hwh.mono ?_
  rintro e w' ⟨rfl, rfl⟩
  clear hwh
  go_wp2_with fail
  refine (awake_any _).mono ?_
  rintro e w6 ⟨rfl, hg6⟩
  go_wp2
  go_ret
  exact ⟨rfl, gb_below (gb_trans hg15 hg6 (by simp))⟩


set_option maxRecDepth 100000 in
theorem bitsParts_lifted (os : Os) (started : os.Started) (H : Type) (enc : TypeId × Value → H) :
    ReturnsInHanded {} Try.checked os 6 .any (Rows.bitsPartsSpec.pre6 enc Try.prog Try.f6 Rows.bitsPartsRow.domain false) (Rows.bitsPartsSpec.post enc Try.prog Try.f6 false true false false) := by
  refine returnsInHanded_of_change_sized (C := Try.checked) own started (by kernel_rfl) Try.func6
    (ChangeSpec.witness6 (enc := enc) (C := Try.checked) false ⟨#[], #[.int .u8 0, .int .u64 0, .int .i64 0, .int .i64 0], []⟩ 8 (by kernel_rfl) (by kernel_rfl) (by kernel_rfl) (by kernel_rfl)) ?_
  intro W base args ds gs before hval0 hW hcnd hsz0 _
  have hsz : (DataW.weightsEach Try.prog (Try.f6.params.toList ++ Rows.bitsPartsSpec.plain.varTypes Try.prog) (ds ++ gs)).all (· ≤ reachBytes) = true := hsz0
  clear hsz0
  have hval : ∀ (j : Nat) t v, Try.f6.params[j]? = some t → args[j]? = some v → Value.okWide Try.prog W .any base t v := hval0
  have hW' := hW
  obtain ⟨p, q, hA0, hV, rfl, hfz, hnd⟩ := hW
  have hA : DataW.TrodAll enc Try.prog W 0 (fun _ => true) true Try.f6.params.toList args.toList ds p := hA0
  rw [Try.params6] at hA hval hsz
  obtain ⟨v0, vs0, d0, ds0, p0, q0, hargs, rfl, rfl, h0, r0⟩ := trodAll_cons hA
  obtain ⟨v1, vs1, d1, ds1, p1, q1, rfl, rfl, rfl, h1, r1⟩ := trodAll_cons r0
  obtain ⟨v2, vs2, d2, ds2, p2, q2, rfl, rfl, rfl, h2, r2⟩ := trodAll_cons r1
  obtain ⟨v3, vs3, d3, ds3, p3, q3, rfl, rfl, rfl, h3, r3⟩ := trodAll_cons r2
  obtain ⟨rfl, rfl, rfl⟩ := trodAll_nil r3
  obtain rfl : args = #[v0, v1, v2, v3] := by cases args; simp_all
  obtain ⟨rfl, rfl⟩ := trodVars_none hV
  obtain ⟨a0, rfl, rfl, rfl, w0⟩ := open_int Try.underlying5 (hval 0 5 v0 rfl rfl) h0
  obtain ⟨a1, rfl, rfl, rfl, w1⟩ := open_int Try.underlying23 (hval 1 23 v1 rfl rfl) h1
  obtain ⟨a2, rfl, rfl, rfl, w2⟩ := open_int Try.underlying3 (hval 2 3 v2 rfl rfl) h2
  obtain ⟨a3, rfl, rfl, rfl, w3⟩ := open_int Try.underlying3 (hval 3 3 v3 rfl rfl) h3
  clear hA0 hval0
  refine (bitsParts_walk a0 a1 a2 a3 w0 w1 w2 w3 W).mono fun e W' ⟨he, bel⟩ => ?_
  subst he
  exact ⟨_, rfl, _, _, _, [], _, [], hW', trodAll_mk1 (shut_bool Try.underlying4 _), (trodAll_cons_mk (shut_int Try.underlying5 w0) (trodAll_cons_mk (shut_int Try.underlying23 w1) (trodAll_cons_mk (shut_int Try.underlying3 w2) (trodAll_cons_mk (shut_int Try.underlying3 w3) trodAll_mk0)))), rfl, bel.frame _, fun h => by cases h⟩

theorem bitsParts_over : Rows.bitsPartsRow.holds Try.pinned (OpenSpec.ofChange Rows.bitsPartsSpec) :=
  OpenClaim.holds_of_wide 6 Try.f6 rfl rfl rfl rfl rfl rfl rfl ⟨rfl, rfl, rfl, rfl, rfl⟩ rfl rfl rfl rfl rfl (by kernel_rfl) Try.func6 (by kernel_rfl)
    (of_decide_eq_true (by kernel_rfl)) (by unfold Func.isWrapper; first | (rw [if_pos (by decide +kernel)]; kernel_rfl) | (rw [if_neg (by decide +kernel)]; exact ⟨rfl, rfl⟩))
    (fun os started H enc _ => bitsParts_lifted os started H enc)

theorem bitsParts_holds : Rows.BitsPartsSaid := bitsParts_over
#print axioms bitsParts_holds
end Go.Proofs.Ytmljokpghhfcjaa
