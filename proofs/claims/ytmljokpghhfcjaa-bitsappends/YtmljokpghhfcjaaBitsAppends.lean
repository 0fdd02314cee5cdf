/- Bits are appended to any string of bits as the document says, or refused, in new memory each time, and the bytes that came in stay: for every slice of bytes, every count, number and width, with no condition but the form's own. -/
import Derived.Test.YtmljokpghhfcjaaSpoil
namespace Go.Proofs.Ytmljokpghhfcjaa
open Go.ChangeShapes Go.WideShapes Go.ChangeAt Go.RowKit
set_option linter.unusedVariables false

set_option maxHeartbeats 1000000 in
theorem bitsAppends_yes (a0 : Option Addr) (z0 : List Int) (cap0 : Nat) (n k : Nat) (v : Int) (W : World) (r0 : Rd W a0 z0) (n0 : a0 = none → cap0 = 0) (l0 : z0.length ≤ 140737488351232) (hv : 0 ≤ v ∧ v ≤ 18446744073709551615) (hW : wholeB z0 n = true) (hk : k ≤ 64) :
    Calls Try.prog 3 #[.slice a0 z0.length cap0, .int .i64 n, .int .u64 v, .int .i64 k] W fun e w' => e = .returned (.bool true) ∧ Below W.heap.size W w' := by
  have hWn := wholeB_n hW
  have hn63 : (n : Int) ≤ 9223372036854775807 := by omega
  have hzi : (z0.length : Int) ≤ 140737488351232 := by omega
  obtain ⟨N, hN⟩ : ∃ N, N = (n + k + 7) / 8 := ⟨_, rfl⟩
  obtain ⟨M, hM⟩ : ∃ M : Int, M = ((n + k : Nat) : Int) := ⟨_, rfl⟩
  obtain ⟨Y, hY⟩ : ∃ Y, Y = app z0 n v k := ⟨_, rfl⟩
  have hNb : N ≤ 140737488351250 := by omega
  have HRA : Hid (∀ w, Rd w a0 z0 → Calls Try.prog 8 #[.slice a0 z0.length cap0, .int .i64 n, .int .u64 v, .int .i64 k] w fun e w' => ∃ g c, e = .returned (.tuple #[.slice (some ⟨g, 0, none⟩) N c, .int .i64 M, .bool true]) ∧ Own w' w.heap.size g N c Y ∧ w.grownBy w' none) := by
    intro w hr
    have h := rappend_yes a0 z0 cap0 n k v w hr n0 l0 hv hW hk
    rw [← hN, ← hM, ← hY] at h
    exact h
  have HA : Hid (∀ a c w, Rd w a z0 → Calls Try.prog 10 #[.slice a z0.length c, .int .i64 n, .int .u64 v, .int .i64 k] w fun e w' => ∃ g, e = .returned (.tuple #[.slice (some ⟨g, 0, none⟩) N N, .int .i64 M, .bool true]) ∧ Own w' w.heap.size g N N Y ∧ w.grownBy w' none) := by
    intro a c w hr
    have h := append_full a z0 c n k v w hr (by omega) hv hW hk
    rw [← hN, ← hM, ← hY] at h
    exact h
  clear hN hM hY hWn
  go_enter Try.func3, Try.ntmps3
  go_wp2_with fail
  refine (HRA.out _ r0).mono ?_
  rintro e w1 ⟨gw, cw, rfl, how, hg1⟩
  clear HRA
  go_wp2_with fail
  refine (lend_any a0 z0 cap0 _ (r0.grown hg1 (by simp)) n0 l0).mono ?_
  rintro e w2 ⟨gl, cl, rfl, hol, hg2⟩
  have gel := hol.ge
  go_wp2_with fail
  refine (HA.out _ _ _ (hol.headR (by simp))).mono ?_
  rintro e w3 ⟨gx, rfl, hox, hg3⟩
  have gex := hox.ge
  have hg13 : w1.grownBy w3 none := gb_trans hg2 hg3 (by simp)
  have hol3 := hol.kept hg3 (by simp)
  clear hol hg2 hg3
  go_wp2_with fail
  refine (whole_any (some ⟨gl, 0, none⟩) z0 cl n w3 (hol3.headR (by simp)) hn63).mono ?_
  rintro e w' ⟨rfl, rfl⟩
  rw [hW]
  go_wp2_with fail
  refine (kept_any a0 z0 _ gl cl cap0 w3 (r0.grown (gb_trans hg1 hg13 (by simp)) (by simp)) hol3 l0).mono ?_
  rintro e w4 ⟨rfl, hg4⟩
  have hg14 : w1.grownBy w4 none := gb_trans hg13 hg4 (fun j hj => .inl (by simp at hj; omega))
  have hox4 := hox.kept hg4 (by simp; omega)
  have gsz := hg4.size
  clear hol3 hg13 hg4 hox
  go_wp2_with fail
  refine (copy_any a0 z0 cap0 w4 (r0.grown (gb_trans hg1 hg14 (by simp)) (by simp)) n0 l0).mono ?_
  rintro e w5 ⟨gc, cc, rfl, hoc, hg5⟩
  go_wp2_with fail
  refine (HA.out _ _ _ hoc.rd).mono ?_
  rintro e w6 ⟨gy, rfl, hoy, hg6⟩
  have gey := hoy.ge
  have gs5 := hg5.size
  have hg16 : w1.grownBy w6 none := gb_trans (gb_trans hg14 hg5 (by simp)) hg6 (by simp)
  have hox6 := (hox4.kept hg5 (by simp)).kept hg6 (by simp)
  have how6 := how.kept hg16 (by simp)
  clear hoc hg5 hg6 hg14 hox4 HA
  go_wp2_with fail
  refine (same_any (some ⟨gx, 0, none⟩) (some ⟨gw, 0, none⟩) Y Y N N N cw w6 hox6.rd how6.rd hox6.len how6.len (by omega)).mono ?_
  rintro e w7 ⟨rfl, hg7⟩
  have htt : decide (Y = Y) = true := by simp
  rw [htt]
  have hox7 := hox6.kept hg7 (by simp)
  have how7 := how6.kept hg7 (by simp)
  have hoy7 := hoy.kept hg7 (by simp)
  have hg17 : W.grownBy w7 none := gb_trans (gb_trans hg1 hg16 (by simp)) hg7 (by simp)
  have hww := how.ge
  have hsz1 := hg1.size
  clear hox6 how6 hoy hg7 hg16 hg1 htt
  go_wp2_with fail
  refine (rwhole_any a0 z0 cap0 n w7 (r0.grown hg17 (by simp)) hzi hn63).mono ?_
  rintro e w' ⟨rfl, rfl⟩
  rw [hW]
  go_wp2_with fail
  refine (spoil_own _ gx N Y w7 hox7 (by omega)).mono ?_
  rintro e w8 ⟨rfl, hg8⟩
  have hgf : W.grownBy w8 none := gb_trans hg17 hg8 (fun j hj => .inl (by simp at hj; omega))
  have how8 := how7.kept hg8 (by simp; omega)
  have hoy8 := hoy7.kept hg8 (by simp; omega)
  clear hg8 hox7 how7 hoy7 hg17 how r0
  go_wp2_with fail
  refine (same_any (some ⟨gy, 0, none⟩) (some ⟨gw, 0, none⟩) Y Y N N N cw w8 hoy8.rd how8.rd hoy8.len how8.len (by omega)).mono ?_
  rintro e w9 ⟨rfl, hg9⟩
  have htt : decide (Y = Y) = true := by simp
  rw [htt]
  clear htt
  go_wp2_with fail
  refine (awake_any _).mono ?_
  rintro e w10 ⟨rfl, hg10⟩
  go_wp2
  go_ret
  exact ⟨rfl, gb_below (gb_trans (gb_trans hgf hg9 (by simp)) hg10 (by simp))⟩

set_option maxHeartbeats 1000000 in
theorem bitsAppends_no (a0 : Option Addr) (z0 : List Int) (cap0 : Nat) (n k v : Int) (W : World) (r0 : Rd W a0 z0) (n0 : a0 = none → cap0 = 0) (l0 : z0.length ≤ 140737488351232) (hn63 : n ≤ 9223372036854775807) (hno : (wholeB z0 n && widthB k) = false) :
    Calls Try.prog 3 #[.slice a0 z0.length cap0, .int .i64 n, .int .u64 v, .int .i64 k] W fun e w' => e = .returned (.bool true) ∧ Below W.heap.size W w' := by
  have hzi : (z0.length : Int) ≤ 140737488351232 := by omega
  have HNO : Hid ((wholeB z0 n && widthB k) = false) := hno
  obtain ⟨B, hB⟩ : ∃ B, B = wholeB z0 n := ⟨_, rfl⟩
  have HB : Hid (B = wholeB z0 n) := hB
  clear hno hB
  go_enter Try.func3, Try.ntmps3
  go_wp2_with fail
  refine (rappend_no a0 z0 cap0 n k v W r0 hzi hn63 HNO.out).mono ?_
  rintro e w' ⟨rfl, rfl⟩
  go_wp2_with fail
  refine (lend_any a0 z0 cap0 _ r0 n0 l0).mono ?_
  rintro e w2 ⟨gl, cl, rfl, hol, hg2⟩
  have gel := hol.ge
  go_wp2_with fail
  refine (append_no (some ⟨gl, 0, none⟩) z0 cl n k v w2 (hol.headR (by simp)) hn63 HNO.out).mono ?_
  rintro e w' ⟨rfl, rfl⟩
  go_wp2_with fail
  refine (whole_any (some ⟨gl, 0, none⟩) z0 cl n w2 (hol.headR (by simp)) hn63).mono ?_
  rintro e w' ⟨rfl, rfl⟩
  rw [← HB.out]
  go_wp2_with fail
  refine (kept_any a0 z0 _ gl cl cap0 w2 (r0.grown hg2 (by simp)) hol l0).mono ?_
  rintro e w4 ⟨rfl, hg4⟩
  have hg14 : W.grownBy w4 none := gb_trans hg2 hg4 (fun j hj => .inl (by simp at hj; omega))
  clear hol hg2 hg4
  go_wp2_with fail
  refine (copy_any a0 z0 cap0 w4 (r0.grown hg14 (by simp)) n0 l0).mono ?_
  rintro e w5 ⟨gc, cc, rfl, hoc, hg5⟩
  have hg15 : W.grownBy w5 none := gb_trans hg14 hg5 (by simp)
  go_wp2_with fail
  refine (append_no (some ⟨gc, 0, none⟩) z0 cc n k v w5 hoc.rd hn63 HNO.out).mono ?_
  rintro e w' ⟨rfl, rfl⟩
  clear hoc hg5 hg14
  go_wp2_with fail
  refine (same_any none none [] [] 0 0 0 0 w5 ⟨.inl rfl, by simp⟩ ⟨.inl rfl, by simp⟩ rfl rfl (by omega)).mono ?_
  rintro e w7 ⟨rfl, hg7⟩
  have htt : decide (([] : List Int) = []) = true := by simp
  rw [htt]
  have hg17 : W.grownBy w7 none := gb_trans hg15 hg7 (by simp)
  clear hg7 hg15 htt
  go_wp2_with fail
  refine (rwhole_any a0 z0 cap0 n w7 (r0.grown hg17 (by simp)) hzi hn63).mono ?_
  rintro e w' ⟨rfl, rfl⟩
  rw [← HB.out]
  have hBB : (B != B) = false := by simp
  go_wp2_with fail
  refine (spoil_nil w7).mono ?_
  rintro e w8 ⟨rfl, hg8⟩
  have hgf : W.grownBy w8 none := gb_trans hg17 hg8 (by simp)
  clear hg8 hg17 r0 hBB
  go_wp2_with fail
  refine (same_any none none [] [] 0 0 0 0 w8 ⟨.inl rfl, by simp⟩ ⟨.inl rfl, by simp⟩ rfl rfl (by omega)).mono ?_
  rintro e w9 ⟨rfl, hg9⟩
  have htt : decide (([] : List Int) = []) = true := by simp
  rw [htt]
  clear htt
  go_wp2_with fail
  refine (awake_any _).mono ?_
  rintro e w10 ⟨rfl, hg10⟩
  go_wp2
  go_ret
  exact ⟨rfl, gb_below (gb_trans (gb_trans hgf hg9 (by simp)) hg10 (by simp))⟩

theorem bitsAppends_walk (a0 : Option Addr) (z0 : List Int) (cap0 : Nat) (n v k : Int) (W : World) (r0 : Rd W a0 z0) (n0 : a0 = none → cap0 = 0) (l0 : z0.length ≤ 140737488351232) (w1 : (Lit.int .i64 n).wf = true) (w2 : (Lit.int .u64 v).wf = true) (w3 : (Lit.int .i64 k).wf = true) :
    Calls Try.prog 3 #[.slice a0 z0.length cap0, .int .i64 n, .int .u64 v, .int .i64 k] W fun e w' => e = .returned (.bool true) ∧ Below W.heap.size W w' := by
  by_cases h : (wholeB z0 n && widthB k) = true
  · simp only [Bool.and_eq_true] at h
    obtain ⟨n', rfl⟩ := Int.eq_ofNat_of_zero_le (wholeB_n h.1).1
    obtain ⟨k', rfl⟩ := Int.eq_ofNat_of_zero_le (widthB_n h.2).1
    exact bitsAppends_yes a0 z0 cap0 n' k' v W r0 n0 l0 (bounds_u64 w2) h.1 (by have := (widthB_n h.2).2; omega)
  · exact bitsAppends_no a0 z0 cap0 n k v W r0 n0 l0 (bounds_i64 w1).2 (by simpa using h)


set_option maxRecDepth 100000 in
theorem bitsAppends_lifted (os : Os) (started : os.Started) (H : Type) (enc : TypeId × Value → H) :
    ReturnsInHanded {} Try.checked os 3 .any (Rows.bitsAppendsSpec.pre6 enc Try.prog Try.f3 Rows.bitsAppendsRow.domain false) (Rows.bitsAppendsSpec.post enc Try.prog Try.f3 false true false false) := by
  refine returnsInHanded_of_change_sized (C := Try.checked) own started (by kernel_rfl) Try.func3
    (ChangeSpec.witness6 (enc := enc) (C := Try.checked) false ⟨#[], #[.slice none 0 0, .int .i64 0, .int .u64 0, .int .i64 0], []⟩ 8 (by kernel_rfl) (by kernel_rfl) (by kernel_rfl) (by kernel_rfl)) ?_
  intro W base args ds gs before hval0 hW hcnd hsz0 _
  have hsz : (DataW.weightsEach Try.prog (Try.f3.params.toList ++ Rows.bitsAppendsSpec.plain.varTypes Try.prog) (ds ++ gs)).all (· ≤ reachBytes) = true := hsz0
  clear hsz0
  have hval : ∀ (j : Nat) t v, Try.f3.params[j]? = some t → args[j]? = some v → Value.okWide Try.prog W .any base t v := hval0
  have hW' := hW
  obtain ⟨p, q, hA0, hV, rfl, hfz, hnd⟩ := hW
  have hA : DataW.TrodAll enc Try.prog W 0 (fun _ => true) true Try.f3.params.toList args.toList ds p := hA0
  rw [Try.params3] at hA hval hsz
  obtain ⟨v0, vs0, d0, ds0, p0, q0, hargs, rfl, rfl, h0, r0⟩ := trodAll_cons hA
  obtain ⟨v1, vs1, d1, ds1, p1, q1, rfl, rfl, rfl, h1, r1⟩ := trodAll_cons r0
  obtain ⟨v2, vs2, d2, ds2, p2, q2, rfl, rfl, rfl, h2, r2⟩ := trodAll_cons r1
  obtain ⟨v3, vs3, d3, ds3, p3, q3, rfl, rfl, rfl, h3, r3⟩ := trodAll_cons r2
  obtain ⟨rfl, rfl, rfl⟩ := trodAll_nil r3
  obtain rfl : args = #[v0, v1, v2, v3] := by cases args; simp_all
  obtain ⟨rfl, rfl⟩ := trodVars_none hV
  obtain ⟨a0, len0, cap0, rfl⟩ := okWide_slice Try.underlying22 (hval 0 22 v0 rfl rfl)
  have k0 := h0
  have lt0 : ∀ x ∈ p0, x.block < W.heap.size := by obtain ⟨m, hm⟩ := k0; exact DataW.trod_lt m _ _ _ hm
  obtain ⟨z0, e0, rd0, nl0, le0⟩ := open_bytes k0 hsz (j := 0) rfl rfl
  subst e0
  obtain ⟨a1, rfl, rfl, rfl, w1⟩ := open_int Try.underlying3 (hval 1 3 v1 rfl rfl) h1
  obtain ⟨a2, rfl, rfl, rfl, w2⟩ := open_int Try.underlying23 (hval 2 23 v2 rfl rfl) h2
  obtain ⟨a3, rfl, rfl, rfl, w3⟩ := open_int Try.underlying3 (hval 3 3 v3 rfl rfl) h3
  clear hA0 hval0
  refine (bitsAppends_walk a0 z0 cap0 a1 a2 a3 W rd0 nl0 le0 w1 w2 w3).mono fun e W' ⟨he, bel⟩ => ?_
  subst he
  exact ⟨_, rfl, _, _, _, [], _, [], hW', trodAll_mk1 (shut_bool Try.underlying4 _), (trodAll_cons_mk (Below.trod laidOut (by kernel_rfl) (of_decide_eq_true (by kernel_rfl)) k0 bel lt0) (trodAll_cons_mk (shut_int Try.underlying3 w1) (trodAll_cons_mk (shut_int Try.underlying23 w2) (trodAll_cons_mk (shut_int Try.underlying3 w3) trodAll_mk0)))), rfl, bel.frame _, fun h => by cases h⟩

theorem bitsAppends_over : Rows.bitsAppendsRow.holds Try.pinned (OpenSpec.ofChange Rows.bitsAppendsSpec) :=
  OpenClaim.holds_of_wide 3 Try.f3 rfl rfl rfl rfl rfl rfl rfl ⟨rfl, rfl, rfl, rfl, rfl⟩ rfl rfl rfl rfl rfl (by kernel_rfl) Try.func3 (by kernel_rfl)
    (of_decide_eq_true (by kernel_rfl)) (by unfold Func.isWrapper; first | (rw [if_pos (by decide +kernel)]; kernel_rfl) | (rw [if_neg (by decide +kernel)]; exact ⟨rfl, rfl⟩))
    (fun os started H enc _ => bitsAppends_lifted os started H enc)

theorem bitsAppends_holds : Rows.BitsAppendsSaid := bitsAppends_over
#print axioms bitsAppends_holds
end Go.Proofs.Ytmljokpghhfcjaa
