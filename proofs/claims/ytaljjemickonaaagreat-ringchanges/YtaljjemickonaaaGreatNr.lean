/- Several texts in one: Vh. -/
import Derived.Test.YtaljjemickonaaaGreatNq
import Derived.Test.YtaljjemickonaaaGreatMu
/- Rings: the document's Change, walked: to another state. -/
namespace Go.Proofs.YtaljjemickonaaaGreat
open Go.RowKit
set_option linter.unusedVariables false
set_option maxRecDepth 20000

set_option maxHeartbeats 16000000 in
theorem r_change1 (E : Int) (ms : List Mem) (raw : List MRow) (id : Int) (a : Option Addr) (n c : Nat) (w : World) (hr : MsRd w a ms raw) (hn : ms.length = n) (hE : 0 ≤ E ∧ E ≤ 18446744073709551615) (hz : n ≤ 3518437208800) (hz2 : ∀ s ∈ ms, s.2.2.length ≤ 35184372088832) :
    Calls Tryz.prog 23 #[.agg #[.int .u64 E, .slice a n c], .int .i64 id, .int .i64 1, .int .i64 2] w fun e w' => RcOut 1 E ms id w e w' := by
  have HX : Hid (MsRd w a ms raw) := hr
  have HB0 : Hid (B2 ((w.alloc (.cells #[.int .u64 E, .slice a n c] 25)).alloc (.cells #[.int .u64 0, .slice none 0 0] 25)) w.heap.size E (.slice a n c) 0 (.slice none 0 0)) := B2.made w E _
  have g0 : w.grownBy ((w.alloc (.cells #[.int .u64 E, .slice a n c] 25)).alloc (.cells #[.int .u64 0, .slice none 0 0] 25)) none := (World.grownBy_alloc _ _ none).trans (World.grownBy_alloc _ _ none)
  have HG : Hid (w.grownBy ((w.alloc (.cells #[.int .u64 E, .slice a n c] 25)).alloc (.cells #[.int .u64 0, .slice none 0 0] 25)) none) := g0
  have CK := r_check E ms raw a n c _ (hr.grown g0) hn hz hz2
  obtain ⟨B, eB⟩ : ∃ B, w.heap.size = B := ⟨_, rfl⟩
  rw [eB] at HB0
  have EB : Hid (w.heap.size = B) := eB
  have HN : Hid (ms.length = n) := hn
  obtain ⟨p0, p1⟩ := cell2 HB0.out.arg
  by_cases hok : ringOk ms = true ∧ E ≠ 18446744073709551615 ∧ idOk id = true
  · obtain ⟨ho, hEm, hid⟩ := hok
    have hck : chkC ms = 0 := by unfold chkC; rw [if_pos ho]
    rw [hck] at CK
    have HCE : Hid (chgE 1 E ms id = chgC 1 ms id) := by show _ = _; unfold chgE; rw [if_pos ⟨ho, hEm, hid⟩]
    have FD : Hid (∀ u, w.grownBy u none → Calls Tryz.prog 46 #[.agg #[.int .u64 E, .slice a n c], .int .i64 id] u fun e w' => e = .returned (.tuple #[.int .i64 ((posI ms id : Nat) : Int), .bool (hasI ms id)]) ∧ u.grownBy w' none) := fun u hg => r_find E ms raw a n c id u (hr.grown hg) hn hz (ringOk_rise ho)
    have CO : Hid (∀ u, w.grownBy u none → Calls Tryz.prog 54 #[.agg #[.int .u64 E, .slice a n c]] u fun e w' => ∃ a' c' raw', e = .returned (.agg #[.int .u64 E, .slice a' n c']) ∧ MsOwn w' u.heap.size (.slice a' n c') ms raw' ∧ u.grownBy w' none) := fun u hg => r_copy E a raw ms n c u (hr.grown hg) hn (by omega) hz2
    have hl16 := (ok_small ho).1
    have HPL : Hid (posI ms id ≤ n) := by have := posI_le ms id; show _ ≤ _; omega
    have hid' : 0 ≤ id ∧ id < 16 := by unfold idOk at hid; simpa using hid
    have b1 : (E == 18446744073709551615) = false := by simp [hEm]
    have b2 : decide (id < 0) = false := by simp; omega
    have b3 : decide ((16 : Int) ≤ id) = false := by simp; omega
    have b4 : ¬ id < 0 := by omega
    have b5 : ¬ (16 : Int) ≤ id := by omega
    have hwE : IntKind.u64.wrap (E + 1) = E + 1 := by rw [IntKind.wrap_u64]; omega
    clear hr hz hz2 g0 eB ho hck hEm hid
    go_enter Tryz.func23, Tryz.ntmps23
    go_wp2_with fail
    try rw [EB.out]
    generalize ((w.alloc (.cells #[.int .u64 E, .slice a n c] 25)).alloc (.cells #[.int .u64 0, .slice none 0 0] 25)) = W at *
    refine CK.mono ?_
    clear CK p0 p1
    rintro e u1 ⟨rfl, g9⟩
    have HB1 : Hid (B2 u1 B E (.slice a n c) 0 (.slice none 0 0)) := HB0.out.grown g9
    replace HG : Hid (w.grownBy u1 none) := HG.out.trans g9
    clear g9 HB0
    obtain ⟨p0, p1⟩ := cell2 HB1.out.arg
    have C2 := FD.out u1 HG.out
    go_wp2_with fail
    clear p0 p1
    refine C2.mono ?_
    clear C2
    rintro e u2 ⟨rfl, g9⟩
    have HB2 : Hid (B2 u2 B E (.slice a n c) 0 (.slice none 0 0)) := HB1.out.grown g9
    replace HG : Hid (w.grownBy u2 none) := HG.out.trans g9
    clear g9 HB1
    obtain ⟨p0, p1⟩ := cell2 HB2.out.arg
    cases hF : hasI ms id with
    | false =>
      have HQ : Hid (chgE 1 E ms id = 131) := by show _ = _; rw [HCE.out]; show inCode ms id 1 = 131; unfold inCode; rw [hF]; rfl
      clear hF
      obtain ⟨r0, r1⟩ := cell2 HB2.out.res
      have f0 := free_row HB2.out.res 0
      have f1 := free_row HB2.out.res 1
      go_wp2
      refine bodyPost_ret (v := .tuple #[.agg #[.int .u64 0, .slice none 0 0], .int .i64 131]) (results_row_tmp Tryz.results23 _ _ _ (B + 1) 25 _ (0, 0) _ rfl (HB2.out.set 0 (.slice none 0 0)) Tryz.underlying25 isz25) rfl ?_
      exact rc_no HQ.out (by decide) rfl (gb_trans HG.out (B2.gset u2 B 0 _) (fun k hk => .inl (by cases hk; have := EB.out; omega)))
    | true =>
      obtain ⟨⟨i1, s1, t1⟩, hm, hi1⟩ := hasI_get hF
      have HIN : Hid (chgE 1 E ms id = if s1 = 1 then 0 else 132) := by
        show _ = _
        rw [HCE.out]
        show inCode ms id 1 = _
        unfold inCode stAt
        rw [hF, hm]
        rfl
      have hQn : posI ms id < n := by have := (List.getElem?_eq_some_iff.1 hm).1; have := HN.out; omega
      obtain ⟨ba, off, ta, tc, ea, a0, a1, a2, rt, _⟩ := (HX.out.grown HG.out).cells hm
      subst ea
      simp only at a0 a1 a2
      have HMQ : Hid (ms[posI ms id]? = some (i1, s1, t1)) := hm
      have hn16 : n ≤ 16 := by have := HN.out; omega
      clear hm hi1 rt hF
      have b6 : (0 : Int) ≤ ((posI ms id : Nat) : Int) := by omega
      have b7 : ((posI ms id : Nat) : Int) < (n : Int) := by omega
      by_cases hs : s1 = 1
      · have hb9 : (s1 != 1) = false := by simp [hs]
        have HQ : Hid (chgE 1 E ms id = 0) := by show _ = _; rw [HIN.out, if_pos hs]
        clear hs
        have HCM : Hid (chgM 1 ms id = setSt ms (posI ms id) 2) := rfl
        have C3 := CO.out u2 HG.out
        generalize posI ms id = Q at *
        go_wp2_with fail
        clear p0 p1 a0 a1 a2
        refine C3.mono ?_
        clear C3
        rintro e u3 ⟨a3, c3, raw3, rfl, mo3, g9⟩
        have HB3 : Hid (B2 u3 B E (.slice (some ⟨ba, off, none⟩) n c) 0 (.slice none 0 0)) := HB2.out.grown g9
        replace HG : Hid (w.grownBy u3 none) := HG.out.trans g9
        have HM3 : Hid (MsOwn u3 u2.heap.size (.slice a3 n c3) ms raw3) := mo3
        have HU2 : Hid (B + 1 < u2.heap.size) := HB2.out.lt
        clear g9 mo3 HB2
        obtain ⟨D, eD⟩ : ∃ D, u3.heap.size = D := ⟨_, rfl⟩
        have ED : Hid (u3.heap.size = D) := eD
        have HV : Hid ((u3.alloc (.cells #[.int .u64 (E + 1), .slice a3 n c3] 25)).heap[D]? = some (.cells #[.int .u64 (E + 1), .slice a3 n c3] 25 (0, 0))) := by show _ = _; rw [← eD]; exact heap_alloc_new u3 _
        have HGV : Hid (u3.grownBy (u3.alloc (.cells #[.int .u64 (E + 1), .slice a3 n c3] 25)) none) := World.grownBy_alloc u3 _ none
        clear eD
        go_upto_region 10 with fail
        try rw [ED.out]
        generalize u3.alloc (.cells #[.int .u64 (E + 1), .slice a3 n c3] 25) = V at *
        have HMU : Hid (MsOwn u3 u2.heap.size (.slice a3 n c3) ms raw3) := HM3.out
        have HBV : Hid (B2 V B E (.slice (some ⟨ba, off, none⟩) n c) 0 (.slice none 0 0)) := HB3.out.grown HGV.out
        have HG3 : Hid (w.grownBy u3 none) := HG.out
        replace HG : Hid (w.grownBy V none) := HG.out.trans HGV.out
        have HMV : Hid (MsOwn V u2.heap.size (.slice a3 n c3) ms raw3) := HM3.out.kept HGV.out (by simp)
        have HBV3 : Hid (B + 1 < u3.heap.size) := HB3.out.lt
        clear HB3 HM3
        obtain ⟨d0, d1⟩ := cell2 HV.out
        have hcp := sown_cap (show SOwn memE 61 V u2.heap.size (.slice a3 n c3) n raw3 by have := HMV.out.row; rw [HN.out] at this; exact this)
        have HRL : Hid (raw3.length = n) := by have := HMV.out.rd.1.len; show _ = _; have := HN.out; omega
        have HSO : Hid (SOwn memE 61 V u2.heap.size (.slice a3 n c3) n raw3) := by have := HMV.out.row; rw [HN.out] at this; exact this
        obtain ⟨g3, cap3, e3, _⟩ := sown_some HSO.out (sown_ne HSO.out (by omega))
        simp only [Value.slice.injEq, true_and] at e3
        obtain ⟨rfl, rfl⟩ := e3
        have hg3 := SOwn.block HSO.out g3 rfl
        have HG3B : Hid (u2.heap.size ≤ g3 ∧ g3 < D) := by
          refine ⟨hg3.1, ?_⟩
          have h9 := HMU.out.row
          rw [HN.out] at h9
          have := (SOwn.block h9 g3 rfl).2
          have := ED.out
          omega
        have hb0 : (0 : Int) ≤ (Q : Int) := by omega
        have hb1 : (Q : Int) ≤ (n : Int) := by omega
        have hb2 : (n : Int) ≤ (c3 : Int) := by omega
        have hb3 : (Q : Int) ≤ (c3 : Int) := by omega
        have hne : ¬ c3 = Q := by omega
        have hRL := HRL.out
        have ed : (raw3.drop Q).length = n - Q := by rw [List.length_drop]; omega
        have et : (raw3.take Q).length = Q := by rw [List.length_take]; omega
        have HSR : Hid (SRd memE V (some ⟨g3, 0, none⟩) raw3) := HMV.out.rd.1.rd
        have HTk : Hid (SRd memE V (some ⟨g3, 0, none⟩) (raw3.take Q)) := srd_takeM HSR.out Q
        have HD : Hid (SRd memE V (some ⟨g3, Q * 3, none⟩) (raw3.drop Q)) := srd_dropM HSR.out Q
        have H10 : Hid (∀ v1 w1, SOwn memE 61 w1 V.heap.size v1 (0 + (n - Q)) ([] ++ raw3.drop Q) → (V.alloc (.cells #[] 61)).grownBy w1 (Value.slice (some ⟨V.heap.size, 0, none⟩) 0 0).ownBlock → ∃ g1 cc1, v1 = .slice (some ⟨g1, 0, none⟩) (n - Q) cc1 ∧ n - Q ≤ cc1 ∧ Hid (SRd memE w1 (some ⟨g1, 0, none⟩) (raw3.drop Q) ∧ V.grownBy w1 none)) := by
          intro v1 w1 ho1 hg1
          rw [Nat.zero_add, List.nil_append] at ho1
          obtain ⟨g1, cc1, rfl, ho⟩ := sown_some ho1 (sown_ne ho1 (by omega))
          exact ⟨g1, cc1, rfl, (sown_cap ho).1, SOwn.rd ho, fresh61 hg1⟩
        have dv1 := (World.grownBy_alloc V (.cells #[] 61) none).cell d1 (by simp)
        go_upto_region 12 with (at_builtin; refine wpList_append_s memT23 rfl (.tmp 60) (.tmp 64) rfl V.heap.size (.slice (some ⟨V.heap.size, 0, none⟩) 0 0) 0 [] rfl (SOwn.empty memE 61 V) (some ⟨g3, Q * 3, none⟩) (raw3.drop Q) (n - Q) (c3 - Q) (by go_simp) ed (HD.out.grown (World.grownBy_alloc V _ none) (by simp)) (by simp) (by omega) (by unfold maxLen; omega) (by rw [size_alloc]; omega) ?_; intro v1 w1 ho1 hg1 hn1; obtain ⟨g1, cc1, e1, hcc1, HR1⟩ := H10.out v1 w1 ho1 hg1; subst e1; clear ho1 hg1 hn1)
        clear dv1
        have HV1 : Hid (w1.heap[D]? = some (.cells #[.int .u64 (E + 1), .slice (some ⟨g3, 0, none⟩) n c3] 25 (0, 0))) := by show _ = _; rw [HR1.out.2.block D (Array.getElem?_eq_some_iff.1 HV.out).1 (by simp)]; exact HV.out
        have HB1' : Hid (B2 w1 B E (.slice (some ⟨ba, off, none⟩) n c) 0 (.slice none 0 0)) := HBV.out.grown HR1.out.2
        have HG1' : Hid (w.grownBy w1 none) := HG.out.trans HR1.out.2
        have HM1' : Hid (MsOwn w1 u2.heap.size (.slice (some ⟨g3, 0, none⟩) n c3) ms raw3) := HMV.out.kept HR1.out.2 (by simp)
        obtain ⟨rawX, MX⟩ := own_set HM1'.out HN.out hQn (2 : Int)
        obtain ⟨bx, ox, tx, cx, ex, y0, y1, y2, _, _⟩ := HM1'.out.rd.1.cells HMQ.out
        cases ex
        simp only [Nat.zero_add] at y0 y1 y2
        have fy := sown_free (show SOwn memE 61 w1 u2.heap.size (.slice (some ⟨g3, 0, none⟩) n c3) n raw3 by have := HM1'.out.row; rw [HN.out] at this; exact this) (Q * 3 + 1)
        obtain ⟨z0, z1⟩ := cell2 HV1.out
        have HXM : Hid (MsOwn (w1.setCell ⟨g3, Q * 3 + 1, none⟩ (.int .i64 2)) u2.heap.size (.slice (some ⟨g3, 0, none⟩) n c3) (setSt ms Q 2) rawX) := MX
        have HXD : Hid ((w1.setCell ⟨g3, Q * 3 + 1, none⟩ (.int .i64 2)).heap[D]? = some (.cells #[.int .u64 (E + 1), .slice (some ⟨g3, 0, none⟩) n c3] 25 (0, 0))) := by show _ = _; rw [set_other _ (by have := HG3B.out; omega)]; exact HV1.out
        have HXB : Hid (B2 (w1.setCell ⟨g3, Q * 3 + 1, none⟩ (.int .i64 2)) B E (.slice (some ⟨ba, off, none⟩) n c) 0 (.slice none 0 0)) := by
          have h1 := HG3B.out
          have h2 := HU2.out
          exact ⟨by rw [set_other _ (by omega)]; exact HB1'.out.arg, by rw [set_other _ (by omega)]; exact HB1'.out.res⟩
        have HXG : Hid (w.grownBy (w1.setCell ⟨g3, Q * 3 + 1, none⟩ (.int .i64 2)) none) := gb_trans HG1'.out (gb_set (g := g3) rfl) (fun k hk => .inl (by cases hk; have := HG3B.out; have := HU2.out; have := EB.out; omega))
        clear MX
        go_upto_region 16 with fail
        generalize w1.setCell ⟨g3, Q * 3 + 1, none⟩ (.int .i64 2) = X at *
        clear y0 y1 y2 fy z0 z1
        obtain ⟨s0, s1'⟩ := cell2 HXD.out
        obtain ⟨r0, r1⟩ := cell2 HXB.out.res
        have ft0 := free_row HXB.out.res 0
        have ft1 := free_row HXB.out.res 1
        have HLX : Hid ((setSt ms Q 2).length = n) := by show _ = _; unfold setSt; rw [List.length_modify]; exact HN.out
        go_wp2
        all_goals (refine bodyPost_ret (v := .tuple #[.agg #[.int .u64 (E + 1), .slice (some ⟨g3, 0, none⟩) n c3], .int .i64 0]) (results_row_tmp Tryz.results23 _ _ _ (B + 1) 25 _ (0, 0) _ rfl (HXB.out.set (E + 1) (.slice (some ⟨g3, 0, none⟩) n c3)) Tryz.underlying25 isz25) rfl ?_; exact rc_yes HQ.out HCM.out HLX.out rfl (msrd_box HXB.out.res HXM.out.rd.1 (B2.gset X B _ _)) (gb_trans HXG.out (B2.gset X B _ _) (fun k hk => .inl (by cases hk; have := EB.out; omega))))
      · have hb9 : (s1 != 1) = true := by simp [hs]
        have HQ : Hid (chgE 1 E ms id = 132) := by show _ = _; rw [HIN.out, if_neg hs]
        clear hs
        obtain ⟨r0, r1⟩ := cell2 HB2.out.res
        have f0 := free_row HB2.out.res 0
        have f1 := free_row HB2.out.res 1
        go_wp2
        refine bodyPost_ret (v := .tuple #[.agg #[.int .u64 0, .slice none 0 0], .int .i64 132]) (results_row_tmp Tryz.results23 _ _ _ (B + 1) 25 _ (0, 0) _ rfl (HB2.out.set 0 (.slice none 0 0)) Tryz.underlying25 isz25) rfl ?_
        exact rc_no HQ.out (by decide) rfl (gb_trans HG.out (B2.gset u2 B 0 _) (fun k hk => .inl (by cases hk; have := EB.out; omega)))
  · have HQ : Hid (chgE 1 E ms id = 130) := by show _ = _; unfold chgE; rw [if_neg hok]
    have HCS : Hid ((chkC ms != 0) = true ∨ (chkC ms != 0) = false ∧ ((E == 18446744073709551615) = true ∨ (E == 18446744073709551615) = false ∧ (id < 0 ∨ ¬ id < 0 ∧ 16 ≤ id))) := by
      by_cases ho : ringOk ms = true
      · refine .inr ⟨by unfold chkC; rw [if_pos ho]; rfl, ?_⟩
        by_cases h1 : E = 18446744073709551615
        · exact .inl (by simp [h1])
        · refine .inr ⟨by simp [h1], ?_⟩
          by_cases h2 : id < 0
          · exact .inl h2
          · refine .inr ⟨h2, ?_⟩
            apply Classical.byContradiction
            intro h3
            exact hok ⟨ho, h1, by unfold idOk; simp; omega⟩
      · exact .inl (by unfold chkC; rw [if_neg ho]; rfl)
    generalize chkC ms = q at *
    clear hr hz hz2 g0 eB hok
    go_enter Tryz.func23, Tryz.ntmps23
    go_wp2_with fail
    try rw [EB.out]
    generalize ((w.alloc (.cells #[.int .u64 E, .slice a n c] 25)).alloc (.cells #[.int .u64 0, .slice none 0 0] 25)) = W at *
    refine CK.mono ?_
    clear CK p0 p1
    rintro e u1 ⟨rfl, g9⟩
    have HB1 : Hid (B2 u1 B E (.slice a n c) 0 (.slice none 0 0)) := HB0.out.grown g9
    replace HG : Hid (w.grownBy u1 none) := HG.out.trans g9
    clear g9 HB0
    obtain ⟨p0, p1⟩ := cell2 HB1.out.arg
    rcases HCS.out with h1 | ⟨h1, h2 | ⟨h2, h3 | ⟨h3, h4⟩⟩⟩
    · obtain ⟨r0, r1⟩ := cell2 HB1.out.res
      have f0 := free_row HB1.out.res 0
      have f1 := free_row HB1.out.res 1
      go_wp2
      refine bodyPost_ret (v := .tuple #[.agg #[.int .u64 0, .slice none 0 0], .int .i64 130]) (results_row_tmp Tryz.results23 _ _ _ (B + 1) 25 _ (0, 0) _ rfl (HB1.out.set 0 (.slice none 0 0)) Tryz.underlying25 isz25) rfl ?_
      exact rc_no HQ.out (by decide) rfl (gb_trans HG.out (B2.gset u1 B 0 _) (fun k hk => .inl (by cases hk; have := EB.out; omega)))
    · obtain ⟨r0, r1⟩ := cell2 HB1.out.res
      have f0 := free_row HB1.out.res 0
      have f1 := free_row HB1.out.res 1
      go_wp2
      refine bodyPost_ret (v := .tuple #[.agg #[.int .u64 0, .slice none 0 0], .int .i64 130]) (results_row_tmp Tryz.results23 _ _ _ (B + 1) 25 _ (0, 0) _ rfl (HB1.out.set 0 (.slice none 0 0)) Tryz.underlying25 isz25) rfl ?_
      exact rc_no HQ.out (by decide) rfl (gb_trans HG.out (B2.gset u1 B 0 _) (fun k hk => .inl (by cases hk; have := EB.out; omega)))
    · obtain ⟨r0, r1⟩ := cell2 HB1.out.res
      have f0 := free_row HB1.out.res 0
      have f1 := free_row HB1.out.res 1
      go_wp2
      refine bodyPost_ret (v := .tuple #[.agg #[.int .u64 0, .slice none 0 0], .int .i64 130]) (results_row_tmp Tryz.results23 _ _ _ (B + 1) 25 _ (0, 0) _ rfl (HB1.out.set 0 (.slice none 0 0)) Tryz.underlying25 isz25) rfl ?_
      exact rc_no HQ.out (by decide) rfl (gb_trans HG.out (B2.gset u1 B 0 _) (fun k hk => .inl (by cases hk; have := EB.out; omega)))
    · obtain ⟨r0, r1⟩ := cell2 HB1.out.res
      have f0 := free_row HB1.out.res 0
      have f1 := free_row HB1.out.res 1
      go_wp2
      refine bodyPost_ret (v := .tuple #[.agg #[.int .u64 0, .slice none 0 0], .int .i64 130]) (results_row_tmp Tryz.results23 _ _ _ (B + 1) 25 _ (0, 0) _ rfl (HB1.out.set 0 (.slice none 0 0)) Tryz.underlying25 isz25) rfl ?_
      exact rc_no HQ.out (by decide) rfl (gb_trans HG.out (B2.gset u1 B 0 _) (fun k hk => .inl (by cases hk; have := EB.out; omega)))
set_option maxHeartbeats 16000000 in
theorem r_change2 (E : Int) (ms : List Mem) (raw : List MRow) (id : Int) (a : Option Addr) (n c : Nat) (w : World) (hr : MsRd w a ms raw) (hn : ms.length = n) (hE : 0 ≤ E ∧ E ≤ 18446744073709551615) (hz : n ≤ 3518437208800) (hz2 : ∀ s ∈ ms, s.2.2.length ≤ 35184372088832) :
    Calls Tryz.prog 23 #[.agg #[.int .u64 E, .slice a n c], .int .i64 id, .int .i64 2, .int .i64 3] w fun e w' => RcOut 2 E ms id w e w' := by
  have HX : Hid (MsRd w a ms raw) := hr
  have HB0 : Hid (B2 ((w.alloc (.cells #[.int .u64 E, .slice a n c] 25)).alloc (.cells #[.int .u64 0, .slice none 0 0] 25)) w.heap.size E (.slice a n c) 0 (.slice none 0 0)) := B2.made w E _
  have g0 : w.grownBy ((w.alloc (.cells #[.int .u64 E, .slice a n c] 25)).alloc (.cells #[.int .u64 0, .slice none 0 0] 25)) none := (World.grownBy_alloc _ _ none).trans (World.grownBy_alloc _ _ none)
  have HG : Hid (w.grownBy ((w.alloc (.cells #[.int .u64 E, .slice a n c] 25)).alloc (.cells #[.int .u64 0, .slice none 0 0] 25)) none) := g0
  have CK := r_check E ms raw a n c _ (hr.grown g0) hn hz hz2
  obtain ⟨B, eB⟩ : ∃ B, w.heap.size = B := ⟨_, rfl⟩
  rw [eB] at HB0
  have EB : Hid (w.heap.size = B) := eB
  have HN : Hid (ms.length = n) := hn
  obtain ⟨p0, p1⟩ := cell2 HB0.out.arg
  by_cases hok : ringOk ms = true ∧ E ≠ 18446744073709551615 ∧ idOk id = true
  · obtain ⟨ho, hEm, hid⟩ := hok
    have hck : chkC ms = 0 := by unfold chkC; rw [if_pos ho]
    rw [hck] at CK
    have HCE : Hid (chgE 2 E ms id = chgC 2 ms id) := by show _ = _; unfold chgE; rw [if_pos ⟨ho, hEm, hid⟩]
    have FD : Hid (∀ u, w.grownBy u none → Calls Tryz.prog 46 #[.agg #[.int .u64 E, .slice a n c], .int .i64 id] u fun e w' => e = .returned (.tuple #[.int .i64 ((posI ms id : Nat) : Int), .bool (hasI ms id)]) ∧ u.grownBy w' none) := fun u hg => r_find E ms raw a n c id u (hr.grown hg) hn hz (ringOk_rise ho)
    have CO : Hid (∀ u, w.grownBy u none → Calls Tryz.prog 54 #[.agg #[.int .u64 E, .slice a n c]] u fun e w' => ∃ a' c' raw', e = .returned (.agg #[.int .u64 E, .slice a' n c']) ∧ MsOwn w' u.heap.size (.slice a' n c') ms raw' ∧ u.grownBy w' none) := fun u hg => r_copy E a raw ms n c u (hr.grown hg) hn (by omega) hz2
    have hl16 := (ok_small ho).1
    have HPL : Hid (posI ms id ≤ n) := by have := posI_le ms id; show _ ≤ _; omega
    have hid' : 0 ≤ id ∧ id < 16 := by unfold idOk at hid; simpa using hid
    have b1 : (E == 18446744073709551615) = false := by simp [hEm]
    have b2 : decide (id < 0) = false := by simp; omega
    have b3 : decide ((16 : Int) ≤ id) = false := by simp; omega
    have b4 : ¬ id < 0 := by omega
    have b5 : ¬ (16 : Int) ≤ id := by omega
    have hwE : IntKind.u64.wrap (E + 1) = E + 1 := by rw [IntKind.wrap_u64]; omega
    clear hr hz hz2 g0 eB ho hck hEm hid
    go_enter Tryz.func23, Tryz.ntmps23
    go_wp2_with fail
    try rw [EB.out]
    generalize ((w.alloc (.cells #[.int .u64 E, .slice a n c] 25)).alloc (.cells #[.int .u64 0, .slice none 0 0] 25)) = W at *
    refine CK.mono ?_
    clear CK p0 p1
    rintro e u1 ⟨rfl, g9⟩
    have HB1 : Hid (B2 u1 B E (.slice a n c) 0 (.slice none 0 0)) := HB0.out.grown g9
    replace HG : Hid (w.grownBy u1 none) := HG.out.trans g9
    clear g9 HB0
    obtain ⟨p0, p1⟩ := cell2 HB1.out.arg
    have C2 := FD.out u1 HG.out
    go_wp2_with fail
    clear p0 p1
    refine C2.mono ?_
    clear C2
    rintro e u2 ⟨rfl, g9⟩
    have HB2 : Hid (B2 u2 B E (.slice a n c) 0 (.slice none 0 0)) := HB1.out.grown g9
    replace HG : Hid (w.grownBy u2 none) := HG.out.trans g9
    clear g9 HB1
    obtain ⟨p0, p1⟩ := cell2 HB2.out.arg
    cases hF : hasI ms id with
    | false =>
      have HQ : Hid (chgE 2 E ms id = 131) := by show _ = _; rw [HCE.out]; show inCode ms id 2 = 131; unfold inCode; rw [hF]; rfl
      clear hF
      obtain ⟨r0, r1⟩ := cell2 HB2.out.res
      have f0 := free_row HB2.out.res 0
      have f1 := free_row HB2.out.res 1
      go_wp2
      refine bodyPost_ret (v := .tuple #[.agg #[.int .u64 0, .slice none 0 0], .int .i64 131]) (results_row_tmp Tryz.results23 _ _ _ (B + 1) 25 _ (0, 0) _ rfl (HB2.out.set 0 (.slice none 0 0)) Tryz.underlying25 isz25) rfl ?_
      exact rc_no HQ.out (by decide) rfl (gb_trans HG.out (B2.gset u2 B 0 _) (fun k hk => .inl (by cases hk; have := EB.out; omega)))
    | true =>
      obtain ⟨⟨i1, s1, t1⟩, hm, hi1⟩ := hasI_get hF
      have HIN : Hid (chgE 2 E ms id = if s1 = 2 then 0 else 132) := by
        show _ = _
        rw [HCE.out]
        show inCode ms id 2 = _
        unfold inCode stAt
        rw [hF, hm]
        rfl
      have hQn : posI ms id < n := by have := (List.getElem?_eq_some_iff.1 hm).1; have := HN.out; omega
      obtain ⟨ba, off, ta, tc, ea, a0, a1, a2, rt, _⟩ := (HX.out.grown HG.out).cells hm
      subst ea
      simp only at a0 a1 a2
      have HMQ : Hid (ms[posI ms id]? = some (i1, s1, t1)) := hm
      have hn16 : n ≤ 16 := by have := HN.out; omega
      clear hm hi1 rt hF
      have b6 : (0 : Int) ≤ ((posI ms id : Nat) : Int) := by omega
      have b7 : ((posI ms id : Nat) : Int) < (n : Int) := by omega
      by_cases hs : s1 = 2
      · have hb9 : (s1 != 2) = false := by simp [hs]
        have HQ : Hid (chgE 2 E ms id = 0) := by show _ = _; rw [HIN.out, if_pos hs]
        clear hs
        have HCM : Hid (chgM 2 ms id = setSt ms (posI ms id) 3) := rfl
        have C3 := CO.out u2 HG.out
        generalize posI ms id = Q at *
        go_wp2_with fail
        clear p0 p1 a0 a1 a2
        refine C3.mono ?_
        clear C3
        rintro e u3 ⟨a3, c3, raw3, rfl, mo3, g9⟩
        have HB3 : Hid (B2 u3 B E (.slice (some ⟨ba, off, none⟩) n c) 0 (.slice none 0 0)) := HB2.out.grown g9
        replace HG : Hid (w.grownBy u3 none) := HG.out.trans g9
        have HM3 : Hid (MsOwn u3 u2.heap.size (.slice a3 n c3) ms raw3) := mo3
        have HU2 : Hid (B + 1 < u2.heap.size) := HB2.out.lt
        clear g9 mo3 HB2
        obtain ⟨D, eD⟩ : ∃ D, u3.heap.size = D := ⟨_, rfl⟩
        have ED : Hid (u3.heap.size = D) := eD
        have HV : Hid ((u3.alloc (.cells #[.int .u64 (E + 1), .slice a3 n c3] 25)).heap[D]? = some (.cells #[.int .u64 (E + 1), .slice a3 n c3] 25 (0, 0))) := by show _ = _; rw [← eD]; exact heap_alloc_new u3 _
        have HGV : Hid (u3.grownBy (u3.alloc (.cells #[.int .u64 (E + 1), .slice a3 n c3] 25)) none) := World.grownBy_alloc u3 _ none
        clear eD
        go_upto_region 10 with fail
        try rw [ED.out]
        generalize u3.alloc (.cells #[.int .u64 (E + 1), .slice a3 n c3] 25) = V at *
        have HMU : Hid (MsOwn u3 u2.heap.size (.slice a3 n c3) ms raw3) := HM3.out
        have HBV : Hid (B2 V B E (.slice (some ⟨ba, off, none⟩) n c) 0 (.slice none 0 0)) := HB3.out.grown HGV.out
        have HG3 : Hid (w.grownBy u3 none) := HG.out
        replace HG : Hid (w.grownBy V none) := HG.out.trans HGV.out
        have HMV : Hid (MsOwn V u2.heap.size (.slice a3 n c3) ms raw3) := HM3.out.kept HGV.out (by simp)
        have HBV3 : Hid (B + 1 < u3.heap.size) := HB3.out.lt
        clear HB3 HM3
        obtain ⟨d0, d1⟩ := cell2 HV.out
        have hcp := sown_cap (show SOwn memE 61 V u2.heap.size (.slice a3 n c3) n raw3 by have := HMV.out.row; rw [HN.out] at this; exact this)
        have HRL : Hid (raw3.length = n) := by have := HMV.out.rd.1.len; show _ = _; have := HN.out; omega
        have HSO : Hid (SOwn memE 61 V u2.heap.size (.slice a3 n c3) n raw3) := by have := HMV.out.row; rw [HN.out] at this; exact this
        obtain ⟨g3, cap3, e3, _⟩ := sown_some HSO.out (sown_ne HSO.out (by omega))
        simp only [Value.slice.injEq, true_and] at e3
        obtain ⟨rfl, rfl⟩ := e3
        have hg3 := SOwn.block HSO.out g3 rfl
        have HG3B : Hid (u2.heap.size ≤ g3 ∧ g3 < D) := by
          refine ⟨hg3.1, ?_⟩
          have h9 := HMU.out.row
          rw [HN.out] at h9
          have := (SOwn.block h9 g3 rfl).2
          have := ED.out
          omega
        have hb0 : (0 : Int) ≤ (Q : Int) := by omega
        have hb1 : (Q : Int) ≤ (n : Int) := by omega
        have hb2 : (n : Int) ≤ (c3 : Int) := by omega
        have hb3 : (Q : Int) ≤ (c3 : Int) := by omega
        have hne : ¬ c3 = Q := by omega
        have hRL := HRL.out
        have ed : (raw3.drop Q).length = n - Q := by rw [List.length_drop]; omega
        have et : (raw3.take Q).length = Q := by rw [List.length_take]; omega
        have HSR : Hid (SRd memE V (some ⟨g3, 0, none⟩) raw3) := HMV.out.rd.1.rd
        have HTk : Hid (SRd memE V (some ⟨g3, 0, none⟩) (raw3.take Q)) := srd_takeM HSR.out Q
        have HD : Hid (SRd memE V (some ⟨g3, Q * 3, none⟩) (raw3.drop Q)) := srd_dropM HSR.out Q
        have H10 : Hid (∀ v1 w1, SOwn memE 61 w1 V.heap.size v1 (0 + (n - Q)) ([] ++ raw3.drop Q) → (V.alloc (.cells #[] 61)).grownBy w1 (Value.slice (some ⟨V.heap.size, 0, none⟩) 0 0).ownBlock → ∃ g1 cc1, v1 = .slice (some ⟨g1, 0, none⟩) (n - Q) cc1 ∧ n - Q ≤ cc1 ∧ Hid (SRd memE w1 (some ⟨g1, 0, none⟩) (raw3.drop Q) ∧ V.grownBy w1 none)) := by
          intro v1 w1 ho1 hg1
          rw [Nat.zero_add, List.nil_append] at ho1
          obtain ⟨g1, cc1, rfl, ho⟩ := sown_some ho1 (sown_ne ho1 (by omega))
          exact ⟨g1, cc1, rfl, (sown_cap ho).1, SOwn.rd ho, fresh61 hg1⟩
        have dv1 := (World.grownBy_alloc V (.cells #[] 61) none).cell d1 (by simp)
        go_upto_region 12 with (at_builtin; refine wpList_append_s memT23 rfl (.tmp 60) (.tmp 64) rfl V.heap.size (.slice (some ⟨V.heap.size, 0, none⟩) 0 0) 0 [] rfl (SOwn.empty memE 61 V) (some ⟨g3, Q * 3, none⟩) (raw3.drop Q) (n - Q) (c3 - Q) (by go_simp) ed (HD.out.grown (World.grownBy_alloc V _ none) (by simp)) (by simp) (by omega) (by unfold maxLen; omega) (by rw [size_alloc]; omega) ?_; intro v1 w1 ho1 hg1 hn1; obtain ⟨g1, cc1, e1, hcc1, HR1⟩ := H10.out v1 w1 ho1 hg1; subst e1; clear ho1 hg1 hn1)
        clear dv1
        have HV1 : Hid (w1.heap[D]? = some (.cells #[.int .u64 (E + 1), .slice (some ⟨g3, 0, none⟩) n c3] 25 (0, 0))) := by show _ = _; rw [HR1.out.2.block D (Array.getElem?_eq_some_iff.1 HV.out).1 (by simp)]; exact HV.out
        have HB1' : Hid (B2 w1 B E (.slice (some ⟨ba, off, none⟩) n c) 0 (.slice none 0 0)) := HBV.out.grown HR1.out.2
        have HG1' : Hid (w.grownBy w1 none) := HG.out.trans HR1.out.2
        have HM1' : Hid (MsOwn w1 u2.heap.size (.slice (some ⟨g3, 0, none⟩) n c3) ms raw3) := HMV.out.kept HR1.out.2 (by simp)
        obtain ⟨rawX, MX⟩ := own_set HM1'.out HN.out hQn (3 : Int)
        obtain ⟨bx, ox, tx, cx, ex, y0, y1, y2, _, _⟩ := HM1'.out.rd.1.cells HMQ.out
        cases ex
        simp only [Nat.zero_add] at y0 y1 y2
        have fy := sown_free (show SOwn memE 61 w1 u2.heap.size (.slice (some ⟨g3, 0, none⟩) n c3) n raw3 by have := HM1'.out.row; rw [HN.out] at this; exact this) (Q * 3 + 1)
        obtain ⟨z0, z1⟩ := cell2 HV1.out
        have HXM : Hid (MsOwn (w1.setCell ⟨g3, Q * 3 + 1, none⟩ (.int .i64 3)) u2.heap.size (.slice (some ⟨g3, 0, none⟩) n c3) (setSt ms Q 3) rawX) := MX
        have HXD : Hid ((w1.setCell ⟨g3, Q * 3 + 1, none⟩ (.int .i64 3)).heap[D]? = some (.cells #[.int .u64 (E + 1), .slice (some ⟨g3, 0, none⟩) n c3] 25 (0, 0))) := by show _ = _; rw [set_other _ (by have := HG3B.out; omega)]; exact HV1.out
        have HXB : Hid (B2 (w1.setCell ⟨g3, Q * 3 + 1, none⟩ (.int .i64 3)) B E (.slice (some ⟨ba, off, none⟩) n c) 0 (.slice none 0 0)) := by
          have h1 := HG3B.out
          have h2 := HU2.out
          exact ⟨by rw [set_other _ (by omega)]; exact HB1'.out.arg, by rw [set_other _ (by omega)]; exact HB1'.out.res⟩
        have HXG : Hid (w.grownBy (w1.setCell ⟨g3, Q * 3 + 1, none⟩ (.int .i64 3)) none) := gb_trans HG1'.out (gb_set (g := g3) rfl) (fun k hk => .inl (by cases hk; have := HG3B.out; have := HU2.out; have := EB.out; omega))
        clear MX
        go_upto_region 16 with fail
        generalize w1.setCell ⟨g3, Q * 3 + 1, none⟩ (.int .i64 3) = X at *
        clear y0 y1 y2 fy z0 z1
        obtain ⟨s0, s1'⟩ := cell2 HXD.out
        obtain ⟨r0, r1⟩ := cell2 HXB.out.res
        have ft0 := free_row HXB.out.res 0
        have ft1 := free_row HXB.out.res 1
        have HLX : Hid ((setSt ms Q 3).length = n) := by show _ = _; unfold setSt; rw [List.length_modify]; exact HN.out
        go_wp2
        all_goals (refine bodyPost_ret (v := .tuple #[.agg #[.int .u64 (E + 1), .slice (some ⟨g3, 0, none⟩) n c3], .int .i64 0]) (results_row_tmp Tryz.results23 _ _ _ (B + 1) 25 _ (0, 0) _ rfl (HXB.out.set (E + 1) (.slice (some ⟨g3, 0, none⟩) n c3)) Tryz.underlying25 isz25) rfl ?_; exact rc_yes HQ.out HCM.out HLX.out rfl (msrd_box HXB.out.res HXM.out.rd.1 (B2.gset X B _ _)) (gb_trans HXG.out (B2.gset X B _ _) (fun k hk => .inl (by cases hk; have := EB.out; omega))))
      · have hb9 : (s1 != 2) = true := by simp [hs]
        have HQ : Hid (chgE 2 E ms id = 132) := by show _ = _; rw [HIN.out, if_neg hs]
        clear hs
        obtain ⟨r0, r1⟩ := cell2 HB2.out.res
        have f0 := free_row HB2.out.res 0
        have f1 := free_row HB2.out.res 1
        go_wp2
        refine bodyPost_ret (v := .tuple #[.agg #[.int .u64 0, .slice none 0 0], .int .i64 132]) (results_row_tmp Tryz.results23 _ _ _ (B + 1) 25 _ (0, 0) _ rfl (HB2.out.set 0 (.slice none 0 0)) Tryz.underlying25 isz25) rfl ?_
        exact rc_no HQ.out (by decide) rfl (gb_trans HG.out (B2.gset u2 B 0 _) (fun k hk => .inl (by cases hk; have := EB.out; omega)))
  · have HQ : Hid (chgE 2 E ms id = 130) := by show _ = _; unfold chgE; rw [if_neg hok]
    have HCS : Hid ((chkC ms != 0) = true ∨ (chkC ms != 0) = false ∧ ((E == 18446744073709551615) = true ∨ (E == 18446744073709551615) = false ∧ (id < 0 ∨ ¬ id < 0 ∧ 16 ≤ id))) := by
      by_cases ho : ringOk ms = true
      · refine .inr ⟨by unfold chkC; rw [if_pos ho]; rfl, ?_⟩
        by_cases h1 : E = 18446744073709551615
        · exact .inl (by simp [h1])
        · refine .inr ⟨by simp [h1], ?_⟩
          by_cases h2 : id < 0
          · exact .inl h2
          · refine .inr ⟨h2, ?_⟩
            apply Classical.byContradiction
            intro h3
            exact hok ⟨ho, h1, by unfold idOk; simp; omega⟩
      · exact .inl (by unfold chkC; rw [if_neg ho]; rfl)
    generalize chkC ms = q at *
    clear hr hz hz2 g0 eB hok
    go_enter Tryz.func23, Tryz.ntmps23
    go_wp2_with fail
    try rw [EB.out]
    generalize ((w.alloc (.cells #[.int .u64 E, .slice a n c] 25)).alloc (.cells #[.int .u64 0, .slice none 0 0] 25)) = W at *
    refine CK.mono ?_
    clear CK p0 p1
    rintro e u1 ⟨rfl, g9⟩
    have HB1 : Hid (B2 u1 B E (.slice a n c) 0 (.slice none 0 0)) := HB0.out.grown g9
    replace HG : Hid (w.grownBy u1 none) := HG.out.trans g9
    clear g9 HB0
    obtain ⟨p0, p1⟩ := cell2 HB1.out.arg
    rcases HCS.out with h1 | ⟨h1, h2 | ⟨h2, h3 | ⟨h3, h4⟩⟩⟩
    · obtain ⟨r0, r1⟩ := cell2 HB1.out.res
      have f0 := free_row HB1.out.res 0
      have f1 := free_row HB1.out.res 1
      go_wp2
      refine bodyPost_ret (v := .tuple #[.agg #[.int .u64 0, .slice none 0 0], .int .i64 130]) (results_row_tmp Tryz.results23 _ _ _ (B + 1) 25 _ (0, 0) _ rfl (HB1.out.set 0 (.slice none 0 0)) Tryz.underlying25 isz25) rfl ?_
      exact rc_no HQ.out (by decide) rfl (gb_trans HG.out (B2.gset u1 B 0 _) (fun k hk => .inl (by cases hk; have := EB.out; omega)))
    · obtain ⟨r0, r1⟩ := cell2 HB1.out.res
      have f0 := free_row HB1.out.res 0
      have f1 := free_row HB1.out.res 1
      go_wp2
      refine bodyPost_ret (v := .tuple #[.agg #[.int .u64 0, .slice none 0 0], .int .i64 130]) (results_row_tmp Tryz.results23 _ _ _ (B + 1) 25 _ (0, 0) _ rfl (HB1.out.set 0 (.slice none 0 0)) Tryz.underlying25 isz25) rfl ?_
      exact rc_no HQ.out (by decide) rfl (gb_trans HG.out (B2.gset u1 B 0 _) (fun k hk => .inl (by cases hk; have := EB.out; omega)))
    · obtain ⟨r0, r1⟩ := cell2 HB1.out.res
      have f0 := free_row HB1.out.res 0
      have f1 := free_row HB1.out.res 1
      go_wp2
      refine bodyPost_ret (v := .tuple #[.agg #[.int .u64 0, .slice none 0 0], .int .i64 130]) (results_row_tmp Tryz.results23 _ _ _ (B + 1) 25 _ (0, 0) _ rfl (HB1.out.set 0 (.slice none 0 0)) Tryz.underlying25 isz25) rfl ?_
      exact rc_no HQ.out (by decide) rfl (gb_trans HG.out (B2.gset u1 B 0 _) (fun k hk => .inl (by cases hk; have := EB.out; omega)))
    · obtain ⟨r0, r1⟩ := cell2 HB1.out.res
      have f0 := free_row HB1.out.res 0
      have f1 := free_row HB1.out.res 1
      go_wp2
      refine bodyPost_ret (v := .tuple #[.agg #[.int .u64 0, .slice none 0 0], .int .i64 130]) (results_row_tmp Tryz.results23 _ _ _ (B + 1) 25 _ (0, 0) _ rfl (HB1.out.set 0 (.slice none 0 0)) Tryz.underlying25 isz25) rfl ?_
      exact rc_no HQ.out (by decide) rfl (gb_trans HG.out (B2.gset u1 B 0 _) (fun k hk => .inl (by cases hk; have := EB.out; omega)))
end Go.Proofs.YtaljjemickonaaaGreat

