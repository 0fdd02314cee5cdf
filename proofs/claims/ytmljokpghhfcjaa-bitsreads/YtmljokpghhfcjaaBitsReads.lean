/- Any bits of any string of bits are read by package bits as the document says, or refused, and the bytes that came in stay: for every slice of bytes and every three numbers, with no condition but the form's own. -/
import Derived.Test.YtmljokpghhfcjaaFrame
namespace Go.Proofs.Ytmljokpghhfcjaa
open Go.ChangeShapes Go.WideShapes Go.ChangeAt Go.RowKit
set_option linter.unusedVariables false

def rval (zs : List Int) (n p k : Int) : Int := if readB zs n p k then rdv zs p.toNat k.toNat else 0
theorem read_all (a : Option Addr) (zs : List Int) (cap : Nat) (n p k : Int) (w : World) (hr : Rd w a zs) (hn : n ≤ 9223372036854775807) (hz : (zs.length : Int) ≤ 140737488351232) :
    Calls Try.prog 19 #[.slice a zs.length cap, .int .i64 n, .int .i64 p, .int .i64 k] w fun e w' => e = .returned (.tuple #[.int .u64 (rval zs n p k), .bool (readB zs n p k)]) ∧ w = w' := by
  unfold rval
  by_cases h : readB zs n p k = true
  · obtain ⟨_, hK, hp, _⟩ := readB_n h
    obtain ⟨p', rfl⟩ := Int.eq_ofNat_of_zero_le hp
    obtain ⟨k', rfl⟩ := Int.eq_ofNat_of_zero_le (widthB_n hK).1
    rw [if_pos h, h]
    exact read_yes a zs cap n p' k' w hr hn hz h
  · have h' : readB zs n p k = false := by simpa using h
    rw [if_neg h, h']
    exact read_no a zs cap n p k w hr hn h'
theorem rread_all (a : Option Addr) (zs : List Int) (cap : Nat) (n p k : Int) (w : World) (hr : Rd w a zs) (hn : n ≤ 9223372036854775807) (hz : (zs.length : Int) ≤ 140737488351232) :
    Calls Try.prog 18 #[.slice a zs.length cap, .int .i64 n, .int .i64 p, .int .i64 k] w fun e w' => e = .returned (.tuple #[.int .u64 (rval zs n p k), .bool (readB zs n p k)]) ∧ w = w' := by
  unfold rval
  by_cases h : readB zs n p k = true
  · obtain ⟨_, hK, hp, _⟩ := readB_n h
    obtain ⟨p', rfl⟩ := Int.eq_ofNat_of_zero_le hp
    obtain ⟨k', rfl⟩ := Int.eq_ofNat_of_zero_le (widthB_n hK).1
    rw [if_pos h, h]
    exact rread_yes a zs cap n p' k' w hr hn hz h
  · have h' : readB zs n p k = false := by simpa using h
    rw [if_neg h, h']
    exact rread_no a zs cap n p k w hr hz hn h'

set_option maxHeartbeats 400000 in
theorem bitsReads_walk (a0 : Option Addr) (z0 : List Int) (cap0 : Nat) (n p k : Int) (W : World) (r0 : Rd W a0 z0) (n0 : a0 = none → cap0 = 0) (l0 : z0.length ≤ 140737488351232) (w1 : (Lit.int .i64 n).wf = true) (w2 : (Lit.int .i64 p).wf = true) (w3 : (Lit.int .i64 k).wf = true) :
    Calls Try.prog 4 #[.slice a0 z0.length cap0, .int .i64 n, .int .i64 p, .int .i64 k] W fun e w' => e = .returned (.bool true) ∧ Below W.heap.size W w' := by
  have hn := (bounds_i64 w1).2
  have hz : (z0.length : Int) ≤ 140737488351232 := by omega
  obtain ⟨rv, hrv⟩ : ∃ r, r = rval z0 n p k := ⟨_, rfl⟩
  obtain ⟨rb, hrb⟩ : ∃ r, r = readB z0 n p k := ⟨_, rfl⟩
  have HV : Hid (rv = rval z0 n p k) := hrv
  have HB : Hid (rb = readB z0 n p k) := hrb
  clear w1 w2 w3 hrv hrb
  go_enter Try.func4, Try.ntmps4
  go_wp2_with fail
  refine (rread_all a0 z0 cap0 n p k _ r0 hn hz).mono ?_
  rintro e w' ⟨rfl, rfl⟩
  rw [← HV.out, ← HB.out]
  go_wp2_with fail
  refine (lend_any a0 z0 cap0 _ r0 n0 l0).mono ?_
  rintro e w1 ⟨g, c, rfl, ho, hg⟩
  go_wp2_with fail
  refine (read_all (some ⟨g, 0, none⟩) z0 c n p k _ (ho.headR (by simp)) hn hz).mono ?_
  rintro e w' ⟨rfl, rfl⟩
  rw [← HV.out, ← HB.out]
  go_wp2_with fail
  refine (kept_any a0 z0 W.heap.size g c cap0 _ (r0.grown hg (by simp)) ho l0).mono ?_
  rintro e w2 ⟨rfl, hg2⟩
  have hgg : W.grownBy w2 none := gb_trans hg hg2 (fun j hj => .inl (by simp at hj; have := ho.ge; omega))
  clear hg hg2 ho r0 n0
  go_wp2_with fail
  refine (awake_any _).mono ?_
  rintro e w3 ⟨rfl, hg3⟩
  go_wp2
  go_ret
  exact ⟨rfl, gb_below (gb_trans hgg hg3 (by simp))⟩


set_option maxRecDepth 100000 in
theorem bitsReads_lifted (os : Os) (started : os.Started) (H : Type) (enc : TypeId × Value → H) :
    ReturnsInHanded {} Try.checked os 4 .any (Rows.bitsReadsSpec.pre6 enc Try.prog Try.f4 Rows.bitsReadsRow.domain false) (Rows.bitsReadsSpec.post enc Try.prog Try.f4 false true false false) := by
  refine returnsInHanded_of_change_sized (C := Try.checked) own started (by kernel_rfl) Try.func4
    (ChangeSpec.witness6 (enc := enc) (C := Try.checked) false ⟨#[], #[.slice none 0 0, .int .i64 0, .int .i64 0, .int .i64 0], []⟩ 8 (by kernel_rfl) (by kernel_rfl) (by kernel_rfl) (by kernel_rfl)) ?_
  intro W base args ds gs before hval0 hW hcnd hsz0 _
  have hsz : (DataW.weightsEach Try.prog (Try.f4.params.toList ++ Rows.bitsReadsSpec.plain.varTypes Try.prog) (ds ++ gs)).all (· ≤ reachBytes) = true := hsz0
  clear hsz0
  have hval : ∀ (j : Nat) t v, Try.f4.params[j]? = some t → args[j]? = some v → Value.okWide Try.prog W .any base t v := hval0
  have hW' := hW
  obtain ⟨p, q, hA0, hV, rfl, hfz, hnd⟩ := hW
  have hA : DataW.TrodAll enc Try.prog W 0 (fun _ => true) true Try.f4.params.toList args.toList ds p := hA0
  rw [Try.params4] at hA hval hsz
  obtain ⟨v0, vs0, d0, ds0, p0, q0, hargs, rfl, rfl, h0, r0⟩ := trodAll_cons hA
  obtain ⟨v1, vs1, d1, ds1, p1, q1, rfl, rfl, rfl, h1, r1⟩ := trodAll_cons r0
  obtain ⟨v2, vs2, d2, ds2, p2, q2, rfl, rfl, rfl, h2, r2⟩ := trodAll_cons r1
  obtain ⟨v3, vs3, d3, ds3, p3, q3, rfl, rfl, rfl, h3, r3⟩ := trodAll_cons r2
  obtain ⟨rfl, rfl, rfl⟩ := trodAll_nil r3
  obtain rfl : args = #[v0, v1, v2, v3] := by cases args; simp_all
  obtain ⟨rfl, rfl⟩ := trodVars_none hV
  obtain ⟨a0, len0, cap0, rfl⟩ := okWide_slice Try.underlying22 (hval 0 22 v0 rfl rfl)
  have k0 := h0
  have lt0 : ∀ x ∈ p0, x.block < W.heap.size := by obtain ⟨m, hm⟩ := k0; exact DataW.trod_lt m _ _ _ hm
  obtain ⟨z0, e0, rd0, nl0, le0⟩ := open_bytes k0 hsz (j := 0) rfl rfl
  subst e0
  obtain ⟨a1, rfl, rfl, rfl, w1⟩ := open_int Try.underlying3 (hval 1 3 v1 rfl rfl) h1
  obtain ⟨a2, rfl, rfl, rfl, w2⟩ := open_int Try.underlying3 (hval 2 3 v2 rfl rfl) h2
  obtain ⟨a3, rfl, rfl, rfl, w3⟩ := open_int Try.underlying3 (hval 3 3 v3 rfl rfl) h3
  clear hA0 hval0
  refine (bitsReads_walk a0 z0 cap0 a1 a2 a3 W rd0 nl0 le0 w1 w2 w3).mono fun e W' ⟨he, bel⟩ => ?_
  subst he
  exact ⟨_, rfl, _, _, _, [], _, [], hW', trodAll_mk1 (shut_bool Try.underlying4 _), (trodAll_cons_mk (Below.trod laidOut (by kernel_rfl) (of_decide_eq_true (by kernel_rfl)) k0 bel lt0) (trodAll_cons_mk (shut_int Try.underlying3 w1) (trodAll_cons_mk (shut_int Try.underlying3 w2) (trodAll_cons_mk (shut_int Try.underlying3 w3) trodAll_mk0)))), rfl, bel.frame _, fun h => by cases h⟩

theorem bitsReads_over : Rows.bitsReadsRow.holds Try.pinned (OpenSpec.ofChange Rows.bitsReadsSpec) :=
  OpenClaim.holds_of_wide 4 Try.f4 rfl rfl rfl rfl rfl rfl rfl ⟨rfl, rfl, rfl, rfl, rfl⟩ rfl rfl rfl rfl rfl (by kernel_rfl) Try.func4 (by kernel_rfl)
    (of_decide_eq_true (by kernel_rfl)) (by unfold Func.isWrapper; first | (rw [if_pos (by decide +kernel)]; kernel_rfl) | (rw [if_neg (by decide +kernel)]; exact ⟨rfl, rfl⟩))
    (fun os started H enc _ => bitsReads_lifted os started H enc)

theorem bitsReads_holds : Rows.BitsReadsSaid := bitsReads_over
#print axioms bitsReads_holds
end Go.Proofs.Ytmljokpghhfcjaa
