/- From any place of any bytes a number, a signed one, a text, a record is read as the document says, or refused: for every slice of bytes and every place. -/
import Derived.Test.YtngkmpmhodgfeaaCawake
import Derived.Test.YtngkmpmhodgfeaaBcap
namespace Go.Proofs.Ytngkmpmhodgfeaa
open Go.ChangeShapes Go.WideShapes Go.ChangeAt Go.RowKit
set_option linter.unusedVariables false

theorem uframeR_len {zs : List Int} {p : Int} {rec : List Int} {r2 r3 : Int} (h : uframeR zs p = (rec, r2, r3)) : rec.length ≤ zs.length := by
  unfold uframeR at h
  split at h
  · simp only [Prod.mk.injEq] at h; rw [← h.1]; simp
  · split at h
    · simp only [Prod.mk.injEq] at h; rw [← h.1]; simp
    · split at h
      · simp only [Prod.mk.injEq] at h; rw [← h.1]; simp
      · split at h
        · simp only [Prod.mk.injEq] at h; rw [← h.1]; simp; omega
        · simp only [Prod.mk.injEq] at h; rw [← h.1]; simp

set_option maxHeartbeats 1000000 in
theorem codecReads_walk (a0 : Option Addr) (z0 : List Int) (cap0 : Nat) (p : Int) (W : World) (r0 : Rd W a0 z0) (n0 : a0 = none → cap0 = 0) (l0 : z0.length ≤ 140737488351232) (hcap0 : z0.length ≤ cap0) (w1 : (Lit.int .i64 p).wf = true) :
    Calls Try.prog 4 #[.slice a0 z0.length cap0, .int .i64 p] W fun e w' => e = .returned (.bool true) ∧ Below W.heap.size W w' := by
  clear w1
  obtain ⟨u1, u2, u3, hU⟩ : ∃ u1 u2 u3, uintR z0 p = (u1, u2, u3) := ⟨_, _, _, rfl⟩
  obtain ⟨i1, i2, i3, hI⟩ : ∃ u1 u2 u3, intR z0 p = (u1, u2, u3) := ⟨_, _, _, rfl⟩
  obtain ⟨s, t2, t3, hT⟩ : ∃ u1 u2 u3, textR z0 p = (u1, u2, u3) := ⟨_, _, _, rfl⟩
  obtain ⟨rec, f2, f3, hF⟩ : ∃ u1 u2 u3, uframeR z0 p = (u1, u2, u3) := ⟨_, _, _, rfl⟩
  have HU : Hid (uintR z0 p = (u1, u2, u3)) := hU
  have HI : Hid (intR z0 p = (i1, i2, i3)) := hI
  have HT : Hid (textR z0 p = (s, t2, t3)) := hT
  have HF : Hid (uframeR z0 p = (rec, f2, f3)) := hF
  have HR : Hid (Rd W a0 z0) := r0
  have HRL : Hid (rec.length ≤ 140737488351232) := by
    show _ ≤ _
    have h : rec.length ≤ z0.length := uframeR_len hF
    omega
  have HLend : Hid (Calls Try.prog 9 #[.slice a0 z0.length cap0] W fun e w' => ∃ g c, e = .returned (.slice (some ⟨g, 0, none⟩) z0.length c) ∧ Own w' W.heap.size g (z0.length + 2) c (z0 ++ [201, 201]) ∧ W.grownBy w' none) := lend_any a0 z0 cap0 W r0 n0 l0
  have HKept : Hid (∀ base g c w, Rd w a0 z0 → Own w base g (z0.length + 2) c (z0 ++ [201, 201]) → Calls Try.prog 15 #[.slice (some ⟨g, 0, none⟩) z0.length c, .slice a0 z0.length cap0] w fun e w' => e = .returned (.bool true) ∧ w.grownBy w' (some g)) := fun base g c w h1 h2 => kept_any a0 z0 base g c cap0 w h1 h2 l0
  have HHead : Hid (∀ base g c w, Own w base g (z0.length + 2) c (z0 ++ [201, 201]) → Rd w (some ⟨g, 0, none⟩) z0) := fun base g c w h => h.headR (by simp)
  obtain ⟨L, hL⟩ : ∃ L, z0.length = L := ⟨_, rfl⟩
  have HL : Hid (z0.length = L) := hL
  rw [hL] at HLend HKept HHead l0 hcap0 ⊢
  have hz : (L : Int) ≤ 140737488355000 := by omega
  clear hU hI hT hF r0 n0 hL
  go_enter Try.func4, Try.ntmps4
  go_wp2_with fail
  refine HLend.out.mono ?_
  rintro e w1 ⟨gl, cl, rfl, hol, hg1⟩
  have gel := hol.ge
  have hcl := hol.cap.1
  have hlcl : L ≤ cl := by omega
  clear HLend
  go_wp2_with fail
  refine (f_uint (some ⟨gl, 0, none⟩) z0 L cl p u1 u2 u3 w1 (HHead.out _ _ _ _ hol) HL.out hlcl hz HU.out).mono ?_
  rintro e w2 ⟨rfl, hg2⟩
  have hol2 := hol.kept hg2 (by simp)
  go_wp2_with fail
  refine (f_int (some ⟨gl, 0, none⟩) z0 L cl p i1 i2 i3 w2 (HHead.out _ _ _ _ hol2) HL.out hlcl hz HI.out).mono ?_
  rintro e w3 ⟨rfl, hg3⟩
  have hol3 := hol2.kept hg3 (by simp)
  go_wp2_with fail
  refine (f_text (some ⟨gl, 0, none⟩) z0 L cl p s t2 t3 w3 (HHead.out _ _ _ _ hol3) HL.out hlcl hz HT.out).mono ?_
  rintro e w4 ⟨rfl, hg4⟩
  have hol4 := hol3.kept hg4 (by simp)
  go_wp2_with fail
  refine (f_unframe (some ⟨gl, 0, none⟩) z0 L cl p rec f2 f3 w4 (HHead.out _ _ _ _ hol4) HL.out hlcl hz HF.out).mono ?_
  rintro e w5 ⟨vr, Nr, cr, rfl, hor, hg5⟩
  have hol5 := hol4.kept hg5 (by simp)
  have hG5 : W.grownBy w5 none := gb_trans (gb_trans (gb_trans (gb_trans hg1 hg2 (by simp)) hg3 (by simp)) hg4 (by simp)) hg5 (by simp)
  have hs4 := gb_trans (gb_trans hg2 hg3 (by simp)) hg4 (by simp)
  have hsz := hs4.size
  clear hol hol2 hol3 hol4 hg1 hg2 hg3 hg4 hg5 hs4
  go_wp2_with fail
  refine (HKept.out _ gl cl w5 (HR.out.grown hG5 (by simp)) hol5).mono ?_
  rintro e w6 ⟨rfl, hg6⟩
  have hG6 : W.grownBy w6 none := gb_trans hG5 hg6 (fun j hj => .inl (by simp at hj; omega))
  have hor6 := hor.kept hg6 (fun j hj => by simp at hj; omega)
  have HR6 : Hid (Rd w6 a0 z0) := HR.out.grown hG6 (by simp)
  clear hol5 hG5 hg6 hor HKept HHead
  go_wp2_with fail
  refine (ruint a0 z0 L cap0 p u1 u2 u3 w6 HR6.out HL.out hz HU.out).mono ?_
  rintro e w' ⟨rfl, rfl⟩
  go_wp2_with fail
  refine (rint a0 z0 L cap0 p i1 i2 i3 w6 HR6.out HL.out hz HI.out).mono ?_
  rintro e w' ⟨rfl, rfl⟩
  go_wp2_with fail
  refine (rtext a0 z0 L cap0 p s t2 t3 w6 HR6.out HL.out hcap0 hz HT.out).mono ?_
  rintro e w' ⟨rfl, rfl⟩
  go_wp2_with fail
  refine (runframe a0 z0 L cap0 p rec f2 f3 w6 HR6.out HL.out hcap0 hz HF.out).mono ?_
  rintro e w7 ⟨vq, Nq, cq, rfl, hoq, hg7⟩
  have hor7 := hor6.kept hg7 (by simp)
  have hG7 := gb_trans hG6 hg7 (by simp)
  clear hor6 hg7 hG6
  go_wp2_with fail
  refine (same_any vr vq rec rec Nr Nq cr cq w7 hor7.2.1 hoq.2.1 hor7.1 hoq.1 (by have := hor7.1; have := HRL.out; omega)).mono ?_
  rintro e w8 ⟨rfl, hg8⟩
  rw [show decide (rec = rec) = true by simp]
  have hG8 := gb_trans hG7 hg8 (by simp)
  clear hor7 hoq hg8 hG7
  go_wp2_with fail
  refine (awake_any _).mono ?_
  rintro e w9 ⟨rfl, hg9⟩
  go_wp2
  go_ret
  exact ⟨rfl, gb_below (gb_trans hG8 hg9 (by simp))⟩


set_option maxRecDepth 100000 in
theorem codecReads_lifted (os : Os) (started : os.Started) (H : Type) (enc : TypeId × Value → H) :
    ReturnsInHanded {} Try.checked os 4 .any (Rows.codecReadsSpec.pre6 enc Try.prog Try.f4 Rows.codecReadsRow.domain false) (Rows.codecReadsSpec.post enc Try.prog Try.f4 false true false false) := by
  refine returnsInHanded_of_change_sized (C := Try.checked) own started (by kernel_rfl) Try.func4
    (ChangeSpec.witness6 (enc := enc) (C := Try.checked) false ⟨#[], #[.slice none 0 0, .int .i64 0], []⟩ 8 (by kernel_rfl) (by kernel_rfl) (by kernel_rfl) (by kernel_rfl)) ?_
  intro W base args ds gs before hval0 hW hcnd hsz0 _
  have hsz : (DataW.weightsEach Try.prog (Try.f4.params.toList ++ Rows.codecReadsSpec.plain.varTypes Try.prog) (ds ++ gs)).all (· ≤ reachBytes) = true := hsz0
  clear hsz0
  have hval : ∀ (j : Nat) t v, Try.f4.params[j]? = some t → args[j]? = some v → Value.okWide Try.prog W .any base t v := hval0
  have hW' := hW
  obtain ⟨p, q, hA0, hV, rfl, hfz, hnd⟩ := hW
  have hA : DataW.TrodAll enc Try.prog W 0 (fun _ => true) true Try.f4.params.toList args.toList ds p := hA0
  rw [Try.params4] at hA hval hsz
  obtain ⟨v0, vs0, d0, ds0, p0, q0, hargs, rfl, rfl, h0, r0⟩ := trodAll_cons hA
  obtain ⟨v1, vs1, d1, ds1, p1, q1, rfl, rfl, rfl, h1, r1⟩ := trodAll_cons r0
  obtain ⟨rfl, rfl, rfl⟩ := trodAll_nil r1
  obtain rfl : args = #[v0, v1] := by cases args; simp_all
  obtain ⟨rfl, rfl⟩ := trodVars_none hV
  obtain ⟨a0, len0, cap0, rfl⟩ := okWide_slice Try.underlying22 (hval 0 22 v0 rfl rfl)
  have k0 := h0
  have lt0 : ∀ x ∈ p0, x.block < W.heap.size := by obtain ⟨m, hm⟩ := k0; exact DataW.trod_lt m _ _ _ hm
  have hc0 := open_cap k0
  obtain ⟨z0, e0, rd0, nl0, le0⟩ := open_bytes k0 hsz (j := 0) rfl rfl
  subst e0
  obtain ⟨a1, rfl, rfl, rfl, w1⟩ := open_int Try.underlying3 (hval 1 3 v1 rfl rfl) h1
  clear hA0 hval0
  refine (codecReads_walk a0 z0 cap0 a1 W rd0 nl0 le0 hc0 w1).mono fun e W' ⟨he, bel⟩ => ?_
  subst he
  exact ⟨_, rfl, _, _, _, [], _, [], hW', trodAll_mk1 (shut_bool Try.underlying4 _), (trodAll_cons_mk (Below.trod laidOut (by kernel_rfl) (of_decide_eq_true (by kernel_rfl)) k0 bel lt0) (trodAll_cons_mk (shut_int Try.underlying3 w1) trodAll_mk0)), rfl, bel.frame _, fun h => by cases h⟩

theorem codecReads_over : Rows.codecReadsRow.holds Try.pinned (OpenSpec.ofChange Rows.codecReadsSpec) :=
  OpenClaim.holds_of_wide 4 Try.f4 rfl rfl rfl rfl rfl rfl rfl ⟨rfl, rfl, rfl, rfl, rfl⟩ rfl rfl rfl rfl rfl (by kernel_rfl) Try.func4 (by kernel_rfl)
    (of_decide_eq_true (by kernel_rfl)) (by unfold Func.isWrapper; first | (rw [if_pos (by decide +kernel)]; kernel_rfl) | (rw [if_neg (by decide +kernel)]; exact ⟨rfl, rfl⟩))
    (fun os started H enc _ => codecReads_lifted os started H enc)

theorem codecReads_holds : Rows.CodecReadsSaid := codecReads_over
#print axioms codecReads_holds
end Go.Proofs.Ytngkmpmhodgfeaa
