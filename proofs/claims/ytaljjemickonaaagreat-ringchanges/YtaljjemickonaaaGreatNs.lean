/- Several texts in one: Vi. -/
import Derived.Test.YtaljjemickonaaaGreatNr
import Derived.Test.YtaljjemickonaaaGreatMu
/- Rings: the document's Change, walked: gone. -/
namespace Go.Proofs.YtaljjemickonaaaGreat
open Go.RowKit
set_option linter.unusedVariables false
set_option maxRecDepth 20000

theorem step_append_E {α : Type} {E : Elem α} {t e : TypeId} {bytes : Nat} (T : ElemOf E Tryz.prog t e bytes) {ops : Array Oper} {o : Oper} {a : Act} {w : World} {K : Act → World → Prop} {Q : Exit → Act → World → Prop} {Z : Prop} (hgd : o.guard = none) (s x : Operand)
    (ho : o.op = .call { callee := .builtin .append, args := #[s, x], argTypes := #[t, t] }) (base : Nat) (v : Value) (n : Nat) (xs : List α) (hs : a.eval s = v) (hown : SOwn E e w base v n xs)
    (ad : Addr) (zs : List α) (m cap : Nat) (hx : a.eval x = .slice (some ad) m cap) (hm : zs.length = m) (hr : SRd E w (some ad) zs) (hlen : (n + m) * bytes ≤ 140737488355328) (hmax : n + m ≤ maxLen) (hb : base ≤ w.heap.size)
    (h : ∀ v' w', SOwn E e w' base v' (n + m) (xs ++ zs) → w.grownBy w' v.ownBlock → (v'.ownBlock = v.ownBlock ∨ v'.ownBlock = some w.heap.size) → K (a.put o.dst v') w') : if Region.wanted o (yielded ops a.tmps) = true then Oper.wp Tryz.prog o a w K Q else Z := by
  have hw : Region.wanted o (yielded ops a.tmps) = true := by simp [Region.wanted, hgd]
  rw [if_pos hw]
  obtain ⟨i0, z, hi, hz0, hz1, hz2, hz3⟩ := T.info
  subst hm
  obtain ⟨v', w', hrun, hown', hg, _, hwh⟩ := run_append_own_at (P := Tryz.prog) w base t o.type e i0 z E.size bytes T.under hi hz0 hz1 hz2 hz3 E.pos v n (E.flat xs) hown ad zs.length cap (E.flat zs) (E.flat_len zs) hr.news (E.flat_one zs) hmax hlen hb
  unfold Oper.wp
  simp [execOp, ho, resolve, invoke, builtin, hs, hx, hrun, Result.andThen]
  rw [← E.flat_app] at hown'
  exact h v' w' hown' hg hwh
theorem step_append_A {α : Type} {E : Elem α} {t e : TypeId} {bytes : Nat} (T : ElemOf E Tryz.prog t e bytes) {ops : Array Oper} {o : Oper} {a : Act} {w : World} {K : Act → World → Prop} {Q : Exit → Act → World → Prop} {Z : Prop} (hgd : o.guard = none) (s x : Operand)
    (ho : o.op = .call { callee := .builtin .append, args := #[s, x], argTypes := #[t, t] }) (base : Nat) (v : Value) (n : Nat) (xs : List α) (hs : a.eval s = v) (hown : SOwn E e w base v n xs)
    (xa : Option Addr) (zs : List α) (m cap : Nat) (hx : a.eval x = .slice xa m cap) (hm : zs.length = m) (hr : SRd E w xa zs) (hnil : xa = none → cap = 0) (hlen : (n + m) * bytes ≤ 140737488355328) (hmax : n + m ≤ maxLen) (hb : base ≤ w.heap.size)
    (h : ∀ v' w', SOwn E e w' base v' (n + m) (xs ++ zs) → w.grownBy w' v.ownBlock → (v'.ownBlock = v.ownBlock ∨ v'.ownBlock = some w.heap.size) → K (a.put o.dst v') w') : if Region.wanted o (yielded ops a.tmps) = true then Oper.wp Tryz.prog o a w K Q else Z := by
  cases xa with
  | some ad => exact step_append_E T hgd s x ho base v n xs hs hown ad zs m cap hx hm hr hlen hmax hb h
  | none =>
    have hz : zs = [] := by
      rcases hr with e | ⟨b, o, e, _⟩
      · exact e
      · cases e
    subst hz
    have hm0 : m = 0 := hm.symm
    have hc0 := hnil rfl
    subst hm0 hc0
    have hw : Region.wanted o (yielded ops a.tmps) = true := by simp [Region.wanted, hgd]
    rw [if_pos hw]
    obtain ⟨i0, z, hi, hz0, hz1, hz2, hz3⟩ := T.info
    have hrun := run_append_owned_none (P := Tryz.prog) (w := w) base t o.type e i0 E.size T.under hi v n (E.flat xs) hown
    unfold Oper.wp
    simp [execOp, ho, resolve, invoke, builtin, hs, hx, hrun, Result.andThen]
    exact h v w (by rw [Nat.add_zero, List.append_nil]; exact hown) (World.grownBy.refl _ _) (.inl rfl)
theorem ms_del {w4 V : World} {base n Q : Nat} {v : Value} {ms : List Mem} {raw3 : List MRow} {a4 : Option Addr} (hm : MsOwn V base v ms raw3) (hn : ms.length = n) (hQ : Q < n) (hg : V.grownBy w4 none) (hs : SRd memE w4 a4 (raw3.take Q ++ raw3.drop (Q + 1))) : MsRd w4 a4 (ms.take Q ++ ms.drop (Q + 1)) (raw3.take Q ++ raw3.drop (Q + 1)) := by
  obtain ⟨a0, c0, hv, h1, _⟩ := hm.read
  have hl := h1.len
  refine ⟨hs, by simp only [List.length_append, List.length_take, List.length_drop, hl], fun i r m hr hm' => ?_⟩
  obtain ⟨j, hj1, hj2⟩ := zip_del raw3 ms Q hl (by omega) i r m hr hm'
  exact (h1.mem j r m hj1 hj2).grown hg
set_option maxHeartbeats 16000000 in
theorem r_change3 (E : Int) (ms : List Mem) (raw : List MRow) (id : Int) (a : Option Addr) (n c : Nat) (w : World) (hr : MsRd w a ms raw) (hn : ms.length = n) (hE : 0 ≤ E ∧ E ≤ 18446744073709551615) (hz : n ≤ 3518437208800) (hz2 : ∀ s ∈ ms, s.2.2.length ≤ 35184372088832) :
    Calls Tryz.prog 23 #[.agg #[.int .u64 E, .slice a n c], .int .i64 id, .int .i64 3, .int .i64 0] w fun e w' => RcOut 3 E ms id w e w' := by
  have HX : Hid (MsRd w a ms raw) := hr
  have HB0 : Hid (B2 ((w.alloc (.cells #[.int .u64 E, .slice a n c] 25)).alloc (.cells #[.int .u64 0, .slice none 0 0] 25)) w.heap.size E (.slice a n c) 0 (.slice none 0 0)) := B2.made w E _
  have g0 : w.grownBy ((w.alloc (.cells #[.int .u64 E, .slice a n c] 25)).alloc (.cells #[.int .u64 0, .slice none 0 0] 25)) none := (World.grownBy_alloc _ _ none).trans (World.grownBy_alloc _ _ none)
  have HG : Hid (w.grownBy ((w.alloc (.cells #[.int .u64 E, .slice a n c] 25)).alloc (.cells #[.int .u64 0, .slice none 0 0] 25)) none) := g0
  have CK := r_check E ms raw a n c _ (hr.grown g0) hn hz hz2
  obtain ⟨B, eB⟩ : ∃ B, w.heap.size = B := ⟨_, rfl⟩
  rw [eB] at HB0
  have EB : Hid (w.heap.size = B) := eB
  have HN : Hid (ms.length = n) := hn
  obtain ⟨p0, p1⟩ := cell2 HB0.out.arg
  by_cases hok : ringOk ms = true ∧ E ≠ 18446744073709551615 ∧ idOk id = true
  · obtain ⟨ho, hEm, hid⟩ := hok
    have hck : chkC ms = 0 := by unfold chkC; rw [if_pos ho]
    rw [hck] at CK
    have HCE : Hid (chgE 3 E ms id = chgC 3 ms id) := by show _ = _; unfold chgE; rw [if_pos ⟨ho, hEm, hid⟩]
    have FD : Hid (∀ u, w.grownBy u none → Calls Tryz.prog 46 #[.agg #[.int .u64 E, .slice a n c], .int .i64 id] u fun e w' => e = .returned (.tuple #[.int .i64 ((posI ms id : Nat) : Int), .bool (hasI ms id)]) ∧ u.grownBy w' none) := fun u hg => r_find E ms raw a n c id u (hr.grown hg) hn hz (ringOk_rise ho)
    have CO : Hid (∀ u, w.grownBy u none → Calls Tryz.prog 54 #[.agg #[.int .u64 E, .slice a n c]] u fun e w' => ∃ a' c' raw', e = .returned (.agg #[.int .u64 E, .slice a' n c']) ∧ MsOwn w' u.heap.size (.slice a' n c') ms raw' ∧ u.grownBy w' none) := fun u hg => r_copy E a raw ms n c u (hr.grown hg) hn (by omega) hz2
    have hl16 := (ok_small ho).1
    have HPL : Hid (posI ms id ≤ n) := by have := posI_le ms id; show _ ≤ _; omega
    have hid' : 0 ≤ id ∧ id < 16 := by unfold idOk at hid; simpa using hid
    have b1 : (E == 18446744073709551615) = false := by simp [hEm]
    have b2 : decide (id < 0) = false := by simp; omega
    have b3 : decide ((16 : Int) ≤ id) = false := by simp; omega
    have b4 : ¬ id < 0 := by omega
    have b5 : ¬ (16 : Int) ≤ id := by omega
    have hwE : IntKind.u64.wrap (E + 1) = E + 1 := by rw [IntKind.wrap_u64]; omega
    clear hr hz hz2 g0 eB ho hck hEm hid
    go_enter Tryz.func23, Tryz.ntmps23
    go_wp2_with fail
    try rw [EB.out]
    generalize ((w.alloc (.cells #[.int .u64 E, .slice a n c] 25)).alloc (.cells #[.int .u64 0, .slice none 0 0] 25)) = W at *
    refine CK.mono ?_
    clear CK p0 p1
    rintro e u1 ⟨rfl, g9⟩
    have HB1 : Hid (B2 u1 B E (.slice a n c) 0 (.slice none 0 0)) := HB0.out.grown g9
    replace HG : Hid (w.grownBy u1 none) := HG.out.trans g9
    clear g9 HB0
    obtain ⟨p0, p1⟩ := cell2 HB1.out.arg
    have C2 := FD.out u1 HG.out
    go_wp2_with fail
    clear p0 p1
    refine C2.mono ?_
    clear C2
    rintro e u2 ⟨rfl, g9⟩
    have HB2 : Hid (B2 u2 B E (.slice a n c) 0 (.slice none 0 0)) := HB1.out.grown g9
    replace HG : Hid (w.grownBy u2 none) := HG.out.trans g9
    clear g9 HB1
    obtain ⟨p0, p1⟩ := cell2 HB2.out.arg
    cases hF : hasI ms id with
    | false =>
      have HQ : Hid (chgE 3 E ms id = 131) := by show _ = _; rw [HCE.out]; show inCode ms id 3 = 131; unfold inCode; rw [hF]; rfl
      clear hF
      obtain ⟨r0, r1⟩ := cell2 HB2.out.res
      have f0 := free_row HB2.out.res 0
      have f1 := free_row HB2.out.res 1
      go_wp2
      refine bodyPost_ret (v := .tuple #[.agg #[.int .u64 0, .slice none 0 0], .int .i64 131]) (results_row_tmp Tryz.results23 _ _ _ (B + 1) 25 _ (0, 0) _ rfl (HB2.out.set 0 (.slice none 0 0)) Tryz.underlying25 isz25) rfl ?_
      exact rc_no HQ.out (by decide) rfl (gb_trans HG.out (B2.gset u2 B 0 _) (fun k hk => .inl (by cases hk; have := EB.out; omega)))
    | true =>
      obtain ⟨⟨i1, s1, t1⟩, hm, hi1⟩ := hasI_get hF
      have HIN : Hid (chgE 3 E ms id = if s1 = 3 then 0 else 132) := by
        show _ = _
        rw [HCE.out]
        show inCode ms id 3 = _
        unfold inCode stAt
        rw [hF, hm]
        rfl
      have hQn : posI ms id < n := by have := (List.getElem?_eq_some_iff.1 hm).1; have := HN.out; omega
      obtain ⟨ba, off, ta, tc, ea, a0, a1, a2, rt, _⟩ := (HX.out.grown HG.out).cells hm
      subst ea
      simp only at a0 a1 a2
      have HMQ : Hid (ms[posI ms id]? = some (i1, s1, t1)) := hm
      have hn16 : n ≤ 16 := by have := HN.out; omega
      clear hm hi1 rt hF
      have b6 : (0 : Int) ≤ ((posI ms id : Nat) : Int) := by omega
      have b7 : ((posI ms id : Nat) : Int) < (n : Int) := by omega
      by_cases hs : s1 = 3
      · have hb9 : (s1 != 3) = false := by simp [hs]
        have HQ : Hid (chgE 3 E ms id = 0) := by show _ = _; rw [HIN.out, if_pos hs]
        clear hs
        have HCM : Hid (chgM 3 ms id = ms.take (posI ms id) ++ ms.drop (posI ms id + 1)) := rfl
        have C3 := CO.out u2 HG.out
        generalize posI ms id = Q at *
        go_wp2_with fail
        clear p0 p1 a0 a1 a2
        refine C3.mono ?_
        clear C3
        rintro e u3 ⟨a3, c3, raw3, rfl, mo3, g9⟩
        have HB3 : Hid (B2 u3 B E (.slice (some ⟨ba, off, none⟩) n c) 0 (.slice none 0 0)) := HB2.out.grown g9
        replace HG : Hid (w.grownBy u3 none) := HG.out.trans g9
        have HM3 : Hid (MsOwn u3 u2.heap.size (.slice a3 n c3) ms raw3) := mo3
        have HU2 : Hid (B + 1 < u2.heap.size) := HB2.out.lt
        clear g9 mo3 HB2
        obtain ⟨D, eD⟩ : ∃ D, u3.heap.size = D := ⟨_, rfl⟩
        have ED : Hid (u3.heap.size = D) := eD
        have HV : Hid ((u3.alloc (.cells #[.int .u64 (E + 1), .slice a3 n c3] 25)).heap[D]? = some (.cells #[.int .u64 (E + 1), .slice a3 n c3] 25 (0, 0))) := by show _ = _; rw [← eD]; exact heap_alloc_new u3 _
        have HGV : Hid (u3.grownBy (u3.alloc (.cells #[.int .u64 (E + 1), .slice a3 n c3] 25)) none) := World.grownBy_alloc u3 _ none
        clear eD
        go_upto_region 10 with fail
        try rw [ED.out]
        generalize u3.alloc (.cells #[.int .u64 (E + 1), .slice a3 n c3] 25) = V at *
        have HMU : Hid (MsOwn u3 u2.heap.size (.slice a3 n c3) ms raw3) := HM3.out
        have HBV : Hid (B2 V B E (.slice (some ⟨ba, off, none⟩) n c) 0 (.slice none 0 0)) := HB3.out.grown HGV.out
        have HG3 : Hid (w.grownBy u3 none) := HG.out
        replace HG : Hid (w.grownBy V none) := HG.out.trans HGV.out
        have HMV : Hid (MsOwn V u2.heap.size (.slice a3 n c3) ms raw3) := HM3.out.kept HGV.out (by simp)
        have HBV3 : Hid (B + 1 < u3.heap.size) := HB3.out.lt
        clear HB3 HM3
        obtain ⟨d0, d1⟩ := cell2 HV.out
        have hcp := sown_cap (show SOwn memE 61 V u2.heap.size (.slice a3 n c3) n raw3 by have := HMV.out.row; rw [HN.out] at this; exact this)
        have HRL : Hid (raw3.length = n) := by have := HMV.out.rd.1.len; show _ = _; have := HN.out; omega
        have HSO : Hid (SOwn memE 61 V u2.heap.size (.slice a3 n c3) n raw3) := by have := HMV.out.row; rw [HN.out] at this; exact this
        obtain ⟨g3, cap3, e3, _⟩ := sown_some HSO.out (sown_ne HSO.out (by omega))
        simp only [Value.slice.injEq, true_and] at e3
        obtain ⟨rfl, rfl⟩ := e3
        have hg3 := SOwn.block HSO.out g3 rfl
        have HG3B : Hid (u2.heap.size ≤ g3 ∧ g3 < D) := by
          refine ⟨hg3.1, ?_⟩
          have h9 := HMU.out.row
          rw [HN.out] at h9
          have := (SOwn.block h9 g3 rfl).2
          have := ED.out
          omega
        have hb0 : (0 : Int) ≤ (Q : Int) := by omega
        have hb1 : (Q : Int) ≤ (n : Int) := by omega
        have hb2 : (n : Int) ≤ (c3 : Int) := by omega
        have hb3 : (Q : Int) ≤ (c3 : Int) := by omega
        have hne : ¬ c3 = Q := by omega
        have hRL := HRL.out
        have ed : (raw3.drop Q).length = n - Q := by rw [List.length_drop]; omega
        have et : (raw3.take Q).length = Q := by rw [List.length_take]; omega
        have HSR : Hid (SRd memE V (some ⟨g3, 0, none⟩) raw3) := HMV.out.rd.1.rd
        have HTk : Hid (SRd memE V (some ⟨g3, 0, none⟩) (raw3.take Q)) := srd_takeM HSR.out Q
        have HD : Hid (SRd memE V (some ⟨g3, Q * 3, none⟩) (raw3.drop Q)) := srd_dropM HSR.out Q
        have H10 : Hid (∀ v1 w1, SOwn memE 61 w1 V.heap.size v1 (0 + (n - Q)) ([] ++ raw3.drop Q) → (V.alloc (.cells #[] 61)).grownBy w1 (Value.slice (some ⟨V.heap.size, 0, none⟩) 0 0).ownBlock → ∃ g1 cc1, v1 = .slice (some ⟨g1, 0, none⟩) (n - Q) cc1 ∧ n - Q ≤ cc1 ∧ Hid (SRd memE w1 (some ⟨g1, 0, none⟩) (raw3.drop Q) ∧ V.grownBy w1 none)) := by
          intro v1 w1 ho1 hg1
          rw [Nat.zero_add, List.nil_append] at ho1
          obtain ⟨g1, cc1, rfl, ho⟩ := sown_some ho1 (sown_ne ho1 (by omega))
          exact ⟨g1, cc1, rfl, (sown_cap ho).1, SOwn.rd ho, fresh61 hg1⟩
        have dv1 := (World.grownBy_alloc V (.cells #[] 61) none).cell d1 (by simp)
        go_upto_region 12 with (at_builtin; refine wpList_append_s memT23 rfl (.tmp 60) (.tmp 64) rfl V.heap.size (.slice (some ⟨V.heap.size, 0, none⟩) 0 0) 0 [] rfl (SOwn.empty memE 61 V) (some ⟨g3, Q * 3, none⟩) (raw3.drop Q) (n - Q) (c3 - Q) (by go_simp) ed (HD.out.grown (World.grownBy_alloc V _ none) (by simp)) (by simp) (by omega) (by unfold maxLen; omega) (by rw [size_alloc]; omega) ?_; intro v1 w1 ho1 hg1 hn1; obtain ⟨g1, cc1, e1, hcc1, HR1⟩ := H10.out v1 w1 ho1 hg1; subst e1; clear ho1 hg1 hn1)
        clear dv1
        have HV1 : Hid (w1.heap[D]? = some (.cells #[.int .u64 (E + 1), .slice (some ⟨g3, 0, none⟩) n c3] 25 (0, 0))) := by show _ = _; rw [HR1.out.2.block D (Array.getElem?_eq_some_iff.1 HV.out).1 (by simp)]; exact HV.out
        have HB1' : Hid (B2 w1 B E (.slice (some ⟨ba, off, none⟩) n c) 0 (.slice none 0 0)) := HBV.out.grown HR1.out.2
        have HG1' : Hid (w.grownBy w1 none) := HG.out.trans HR1.out.2
        have HM1' : Hid (MsOwn w1 u2.heap.size (.slice (some ⟨g3, 0, none⟩) n c3) ms raw3) := HMV.out.kept HR1.out.2 (by simp)
        have HV4F : Hid (∀ u, V.grownBy u none → u.heap[D]? = some (.cells #[.int .u64 (E + 1), .slice (some ⟨g3, 0, none⟩) n c3] 25 (0, 0))) := fun u hg => by rw [hg.block D (Array.getElem?_eq_some_iff.1 HV.out).1 (by simp)]; exact HV.out
        obtain ⟨n4, en4⟩ : ∃ n4, 0 + Q + (n - Q - 1) = n4 := ⟨_, rfl⟩
        have EN4 : Hid (0 + Q + (n - Q - 1) = n4) := en4
        have HN4 : Hid ((ms.take Q ++ ms.drop (Q + 1)).length = n4) := by
          show _ = _
          have := HN.out
          simp only [List.length_append, List.length_take, List.length_drop]
          omega
        clear en4
        have ed1 : ((raw3.drop Q).drop 1).length = n - Q - 1 := by rw [List.length_drop, ed]
        have c1a : (0 : Int) ≤ (1 : Int) := by omega
        have c1b : (1 : Int) ≤ ((n - Q : Nat) : Int) := by omega
        have c1c : (1 : Int) ≤ (cc1 : Int) := by omega
        have c1d : 1 ≤ n - Q := by omega
        have c1e : 1 ≤ cc1 := by omega
        have HGW : Hid (w1.grownBy w1.drew none) := gb_drew (World.grownBy.refl _ _)
        have HWS : Hid (w1.heap.size ≤ w1.drew.heap.size) := Nat.le_refl _
        have d9 : Hid (w1.cell? ⟨D, 1, none⟩ = some (.slice (some ⟨g3, 0, none⟩) n c3)) := (cell2 HV1.out).2
        obtain ⟨z0, z1⟩ := cell2 HV1.out
        go_upto_region 15 with fail
        clear z0 z1
        by_cases hc1 : cc1 = 1
        · have HD1 : Hid (SRd memE w1 (some ⟨g1, 0, none⟩) ((raw3.drop Q).drop 1)) := by left; exact List.drop_of_length_le (by rw [ed]; omega)
          refine wp_region_held_drew (S := fun _ => True) (by kernel_rfl) trivial (fun hHeld => ?_)
          generalize w1.drew = W0 at HGW HWS ⊢
          refine wpAnyH_take (i := 1) (v := .pointer (some ⟨D, 1, none⟩)) rfl (by kernel_rfl) (by kernel_rfl) (by kernel_rfl) (fun _ _ _ h => h) (Or.inl ⟨by rfl, fun w hSw => ?_⟩) (by assumption) ?_
          · go_simp
          (try simp only [Act.put]); (try simp only [List.setIfInBounds_toArray]); (try simp only [List.set_cons_succ]); (try simp only [List.set_cons_zero])
          refine wpAnyH_take (i := 3) (v := .int .i64 (Q : Int)) rfl (by kernel_rfl) (by kernel_rfl) (by kernel_rfl) (fun _ _ _ h => h) (Or.inl ⟨by rfl, fun w hSw => ?_⟩) (by assumption) ?_
          · go_simp
          (try simp only [Act.put]); (try simp only [List.setIfInBounds_toArray]); (try simp only [List.set_cons_succ]); (try simp only [List.set_cons_zero])
          refine wpAnyH_take (i := 6) (v := .slice (some ⟨g1, 0, none⟩) (n - Q) cc1) rfl (by kernel_rfl) (by kernel_rfl) (by kernel_rfl) (fun _ _ _ h => h) (Or.inl ⟨by rfl, fun w hSw => ?_⟩) (by assumption) ?_
          · go_simp
          (try simp only [Act.put]); (try simp only [List.setIfInBounds_toArray]); (try simp only [List.set_cons_succ]); (try simp only [List.set_cons_zero])
          refine wpAnyH_take (i := 7) (v := .slice (some ⟨g1, 0, none⟩) (n - Q - 1) (cc1 - 1)) rfl (by kernel_rfl) (by kernel_rfl) (by kernel_rfl) (fun _ _ _ h => h) (Or.inl ⟨by rfl, fun w hSw => ?_⟩) (by assumption) ?_
          · go_simp
          (try simp only [Act.put]); (try simp only [List.setIfInBounds_toArray]); (try simp only [List.set_cons_succ]); (try simp only [List.set_cons_zero])
          refine wpAnyH_ready (rs := [0, 2]) (by kernel_rfl) (by simp) (AllReadyH.cons (i := 0) rfl (fun K9 hK => ?_) (AllReadyH.cons (i := 2) rfl (fun K9 hK => ?_) AllReadyH.nil))
          · go_simp
            have HGm : Hid (w1.grownBy (W0.alloc (.cells #[] 61)) none) := HGW.out.trans (World.grownBy_alloc W0 _ none)
            refine hK.out _ _ trivial (fun hHeld => ?_)
            clear hK K9 
            (try simp only [Act.put]); (try simp only [List.setIfInBounds_toArray]); (try simp only [List.set_cons_succ]); (try simp only [List.set_cons_zero])
            refine wpAnyH_ready (rs := [2]) (by kernel_rfl) (by simp) (AllReadyH.cons (i := 2) rfl (fun K9 hK => ?_) AllReadyH.nil)
            have z9 := HGm.out.cell d9.out (by simp)
            go_simp
            refine hK.out _ _ trivial (fun hHeld => ?_)
            clear hK K9 z9
            (try simp only [Act.put]); (try simp only [List.setIfInBounds_toArray]); (try simp only [List.set_cons_succ]); (try simp only [List.set_cons_zero])
            refine wpAnyH_take (i := 4) (v := .slice (some ⟨g3, 0, none⟩) Q c3) rfl (by kernel_rfl) (by kernel_rfl) (by kernel_rfl) (fun _ _ _ h => h) (Or.inl ⟨by rfl, fun w hSw => ?_⟩) (by assumption) ?_
            · go_simp
            (try simp only [Act.put]); (try simp only [List.setIfInBounds_toArray]); (try simp only [List.set_cons_succ]); (try simp only [List.set_cons_zero])
            refine wpAnyH_ready (rs := [5]) (by kernel_rfl) (by simp) (AllReadyH.cons (i := 5) rfl (fun K9 hK => ?_) AllReadyH.nil)
            refine step_append_A memT23 rfl (.tmp 94) (.tmp 98) rfl W0.heap.size (.slice (some ⟨W0.heap.size, 0, none⟩) 0 0) 0 [] (by simp [Act.eval]) (SOwn.empty memE 61 W0) (some ⟨g3, 0, none⟩) (raw3.take Q) Q c3 (by simp [Act.eval]) et (HTk.out.grown (HR1.out.2.trans HGm.out) (by simp)) (by simp) (by omega) (by unfold maxLen; omega) (by rw [size_alloc]; omega) ?_
            intro v2 w2 ho2 hg2 hl2
            have h12 : Hid (w1.grownBy w2 none) := HGW.out.trans (fresh61 hg2)
            have HW2 : Hid (W0.heap.size ≤ w2.heap.size) := (fresh61 hg2).size
            replace ho2 : Hid _ := ho2
            refine hK.out _ _ trivial (fun hHeld => ?_)
            clear hK K9 hg2 hl2
            (try simp only [Act.put]); (try simp only [List.setIfInBounds_toArray]); (try simp only [List.set_cons_succ]); (try simp only [List.set_cons_zero])
            refine wpAnyH_ready (rs := [8]) (by kernel_rfl) (by simp) (AllReadyH.cons (i := 8) rfl (fun K9 hK => ?_) AllReadyH.nil)
            refine step_append_A memT23 rfl (.tmp 99) (.tmp 101) rfl W0.heap.size v2 (0 + Q) ([] ++ raw3.take Q) (by simp [Act.eval]) ho2.out (some ⟨g1, 0, none⟩) ((raw3.drop Q).drop 1) (n - Q - 1) (cc1 - 1) (by simp [Act.eval] <;> omega) ed1 (HD1.out.grown h12.out (by simp)) (by simp) (by omega) (by unfold maxLen; omega) HW2.out ?_
            intro v4 w4 ho4 hg4 hl4
            rw [EN4.out] at ho4
            obtain ⟨a4, c4, e4⟩ := sown_slice ho4
            subst e4
            have h14 : Hid (V.grownBy w4 none) := HR1.out.2.trans (gb_trans h12.out hg4 (fun k hk => .inl (by have := (SOwn.block ho2.out k hk).1; have := HWS.out; omega)))
            have hv4 : Hid (w4.heap[D]? = some (.cells #[.int .u64 (E + 1), .slice (some ⟨g3, 0, none⟩) n c3] 25 (0, 0))) := HV4F.out w4 h14.out
            obtain ⟨z0, z1⟩ := cell2 hv4.out
            have fz := free_row hv4.out 1
            have MS4 : Hid (MsRd w4 a4 (ms.take Q ++ ms.drop (Q + 1)) (raw3.take Q ++ raw3.drop (Q + 1))) := ms_del HMV.out HN.out hQn h14.out (by have := SOwn.rd ho4; rw [List.nil_append, List.drop_drop] at this; exact this)
            refine hK.out _ _ trivial (fun hHeld => ?_)
            clear hK K9 ho4 hg4 hl4
            (try simp only [Act.put]); (try simp only [List.setIfInBounds_toArray]); (try simp only [List.set_cons_succ]); (try simp only [List.set_cons_zero])
            refine wpAnyH_take (i := 9) (v := .pointer (some ⟨D, 1, none⟩)) rfl (by kernel_rfl) (by kernel_rfl) (by kernel_rfl) (fun _ _ _ h => h) (Or.inl ⟨by rfl, fun w hSw => ?_⟩) (by assumption) ?_
            · go_simp
            (try simp only [Act.put]); (try simp only [List.setIfInBounds_toArray]); (try simp only [List.set_cons_succ]); (try simp only [List.set_cons_zero])
            refine wpAnyH_ready (rs := [10]) (by kernel_rfl) (by simp) (AllReadyH.cons (i := 10) rfl (fun K9 hK => ?_) AllReadyH.nil)
            go_simp
            refine hK.out _ _ trivial (fun hHeld => ?_)
            clear hK K9 
            (try simp only [Act.put]); (try simp only [List.setIfInBounds_toArray]); (try simp only [List.set_cons_succ]); (try simp only [List.set_cons_zero])
            refine wpAnyH_done (by kernel_rfl) ?_ _
            clear hHeld z0 z1 fz
            have HXD : Hid ((w4.setCell ⟨D, 1, none⟩ (.slice a4 n4 c4)).heap[D]? = some (.cells #[.int .u64 (E + 1), .slice a4 n4 c4] 25 (0, 0))) := set2 hv4.out _
            have HXB : Hid (B2 (w4.setCell ⟨D, 1, none⟩ (.slice a4 n4 c4)) B E (.slice (some ⟨ba, off, none⟩) n c) 0 (.slice none 0 0)) := by
              have h9 := HBV.out.grown h14.out
              have hne : B + 1 < D := by have := HBV3.out; have := ED.out; omega
              exact ⟨by rw [set_other _ (by omega)]; exact h9.arg, by rw [set_other _ (by omega)]; exact h9.res⟩
            have HXM : Hid (MsRd (w4.setCell ⟨D, 1, none⟩ (.slice a4 n4 c4)) a4 (ms.take Q ++ ms.drop (Q + 1)) (raw3.take Q ++ raw3.drop (Q + 1))) := msrd_box hv4.out MS4.out (gb_set (g := D) rfl)
            have HXG : Hid (w.grownBy (w4.setCell ⟨D, 1, none⟩ (.slice a4 n4 c4)) none) := gb_trans (HG.out.trans h14.out) (gb_set (g := D) rfl) (fun k hk => .inl (by cases hk; have := HG3.out.size; have := ED.out; omega))
            generalize w4.setCell ⟨D, 1, none⟩ (.slice a4 n4 c4) = X at *
            obtain ⟨s0, s1'⟩ := cell2 HXD.out
            obtain ⟨r0, r1⟩ := cell2 HXB.out.res
            have ft0 := free_row HXB.out.res 0
            have ft1 := free_row HXB.out.res 1
            go_wp2
            all_goals (refine bodyPost_ret (v := .tuple #[.agg #[.int .u64 (E + 1), .slice a4 n4 c4], .int .i64 0]) (results_row_tmp Tryz.results23 _ _ _ (B + 1) 25 _ (0, 0) _ rfl (HXB.out.set (E + 1) (.slice a4 n4 c4)) Tryz.underlying25 isz25) rfl ?_; exact rc_yes HQ.out HCM.out HN4.out rfl (msrd_box HXB.out.res HXM.out (B2.gset X B _ _)) (gb_trans HXG.out (B2.gset X B _ _) (fun k hk => .inl (by cases hk; have := EB.out; omega))))
          · have z9 := HGW.out.cell d9.out (by simp)
            go_simp
            refine hK.out _ _ trivial (fun hHeld => ?_)
            clear hK K9 z9
            (try simp only [Act.put]); (try simp only [List.setIfInBounds_toArray]); (try simp only [List.set_cons_succ]); (try simp only [List.set_cons_zero])
            refine wpAnyH_take (i := 4) (v := .slice (some ⟨g3, 0, none⟩) Q c3) rfl (by kernel_rfl) (by kernel_rfl) (by kernel_rfl) (fun _ _ _ h => h) (Or.inl ⟨by rfl, fun w hSw => ?_⟩) (by assumption) ?_
            · go_simp
            (try simp only [Act.put]); (try simp only [List.setIfInBounds_toArray]); (try simp only [List.set_cons_succ]); (try simp only [List.set_cons_zero])
            refine wpAnyH_ready (rs := [0]) (by kernel_rfl) (by simp) (AllReadyH.cons (i := 0) rfl (fun K9 hK => ?_) AllReadyH.nil)
            go_simp
            have HGm : Hid (w1.grownBy (W0.alloc (.cells #[] 61)) none) := HGW.out.trans (World.grownBy_alloc W0 _ none)
            refine hK.out _ _ trivial (fun hHeld => ?_)
            clear hK K9 
            (try simp only [Act.put]); (try simp only [List.setIfInBounds_toArray]); (try simp only [List.set_cons_succ]); (try simp only [List.set_cons_zero])
            refine wpAnyH_ready (rs := [5]) (by kernel_rfl) (by simp) (AllReadyH.cons (i := 5) rfl (fun K9 hK => ?_) AllReadyH.nil)
            refine step_append_A memT23 rfl (.tmp 94) (.tmp 98) rfl W0.heap.size (.slice (some ⟨W0.heap.size, 0, none⟩) 0 0) 0 [] (by simp [Act.eval]) (SOwn.empty memE 61 W0) (some ⟨g3, 0, none⟩) (raw3.take Q) Q c3 (by simp [Act.eval]) et (HTk.out.grown (HR1.out.2.trans HGm.out) (by simp)) (by simp) (by omega) (by unfold maxLen; omega) (by rw [size_alloc]; omega) ?_
            intro v2 w2 ho2 hg2 hl2
            have h12 : Hid (w1.grownBy w2 none) := HGW.out.trans (fresh61 hg2)
            have HW2 : Hid (W0.heap.size ≤ w2.heap.size) := (fresh61 hg2).size
            replace ho2 : Hid _ := ho2
            refine hK.out _ _ trivial (fun hHeld => ?_)
            clear hK K9 hg2 hl2
            (try simp only [Act.put]); (try simp only [List.setIfInBounds_toArray]); (try simp only [List.set_cons_succ]); (try simp only [List.set_cons_zero])
            refine wpAnyH_ready (rs := [8]) (by kernel_rfl) (by simp) (AllReadyH.cons (i := 8) rfl (fun K9 hK => ?_) AllReadyH.nil)
            refine step_append_A memT23 rfl (.tmp 99) (.tmp 101) rfl W0.heap.size v2 (0 + Q) ([] ++ raw3.take Q) (by simp [Act.eval]) ho2.out (some ⟨g1, 0, none⟩) ((raw3.drop Q).drop 1) (n - Q - 1) (cc1 - 1) (by simp [Act.eval] <;> omega) ed1 (HD1.out.grown h12.out (by simp)) (by simp) (by omega) (by unfold maxLen; omega) HW2.out ?_
            intro v4 w4 ho4 hg4 hl4
            rw [EN4.out] at ho4
            obtain ⟨a4, c4, e4⟩ := sown_slice ho4
            subst e4
            have h14 : Hid (V.grownBy w4 none) := HR1.out.2.trans (gb_trans h12.out hg4 (fun k hk => .inl (by have := (SOwn.block ho2.out k hk).1; have := HWS.out; omega)))
            have hv4 : Hid (w4.heap[D]? = some (.cells #[.int .u64 (E + 1), .slice (some ⟨g3, 0, none⟩) n c3] 25 (0, 0))) := HV4F.out w4 h14.out
            obtain ⟨z0, z1⟩ := cell2 hv4.out
            have fz := free_row hv4.out 1
            have MS4 : Hid (MsRd w4 a4 (ms.take Q ++ ms.drop (Q + 1)) (raw3.take Q ++ raw3.drop (Q + 1))) := ms_del HMV.out HN.out hQn h14.out (by have := SOwn.rd ho4; rw [List.nil_append, List.drop_drop] at this; exact this)
            refine hK.out _ _ trivial (fun hHeld => ?_)
            clear hK K9 ho4 hg4 hl4
            (try simp only [Act.put]); (try simp only [List.setIfInBounds_toArray]); (try simp only [List.set_cons_succ]); (try simp only [List.set_cons_zero])
            refine wpAnyH_take (i := 9) (v := .pointer (some ⟨D, 1, none⟩)) rfl (by kernel_rfl) (by kernel_rfl) (by kernel_rfl) (fun _ _ _ h => h) (Or.inl ⟨by rfl, fun w hSw => ?_⟩) (by assumption) ?_
            · go_simp
            (try simp only [Act.put]); (try simp only [List.setIfInBounds_toArray]); (try simp only [List.set_cons_succ]); (try simp only [List.set_cons_zero])
            refine wpAnyH_ready (rs := [10]) (by kernel_rfl) (by simp) (AllReadyH.cons (i := 10) rfl (fun K9 hK => ?_) AllReadyH.nil)
            go_simp
            refine hK.out _ _ trivial (fun hHeld => ?_)
            clear hK K9 
            (try simp only [Act.put]); (try simp only [List.setIfInBounds_toArray]); (try simp only [List.set_cons_succ]); (try simp only [List.set_cons_zero])
            refine wpAnyH_done (by kernel_rfl) ?_ _
            clear hHeld z0 z1 fz
            have HXD : Hid ((w4.setCell ⟨D, 1, none⟩ (.slice a4 n4 c4)).heap[D]? = some (.cells #[.int .u64 (E + 1), .slice a4 n4 c4] 25 (0, 0))) := set2 hv4.out _
            have HXB : Hid (B2 (w4.setCell ⟨D, 1, none⟩ (.slice a4 n4 c4)) B E (.slice (some ⟨ba, off, none⟩) n c) 0 (.slice none 0 0)) := by
              have h9 := HBV.out.grown h14.out
              have hne : B + 1 < D := by have := HBV3.out; have := ED.out; omega
              exact ⟨by rw [set_other _ (by omega)]; exact h9.arg, by rw [set_other _ (by omega)]; exact h9.res⟩
            have HXM : Hid (MsRd (w4.setCell ⟨D, 1, none⟩ (.slice a4 n4 c4)) a4 (ms.take Q ++ ms.drop (Q + 1)) (raw3.take Q ++ raw3.drop (Q + 1))) := msrd_box hv4.out MS4.out (gb_set (g := D) rfl)
            have HXG : Hid (w.grownBy (w4.setCell ⟨D, 1, none⟩ (.slice a4 n4 c4)) none) := gb_trans (HG.out.trans h14.out) (gb_set (g := D) rfl) (fun k hk => .inl (by cases hk; have := HG3.out.size; have := ED.out; omega))
            generalize w4.setCell ⟨D, 1, none⟩ (.slice a4 n4 c4) = X at *
            obtain ⟨s0, s1'⟩ := cell2 HXD.out
            obtain ⟨r0, r1⟩ := cell2 HXB.out.res
            have ft0 := free_row HXB.out.res 0
            have ft1 := free_row HXB.out.res 1
            go_wp2
            all_goals (refine bodyPost_ret (v := .tuple #[.agg #[.int .u64 (E + 1), .slice a4 n4 c4], .int .i64 0]) (results_row_tmp Tryz.results23 _ _ _ (B + 1) 25 _ (0, 0) _ rfl (HXB.out.set (E + 1) (.slice a4 n4 c4)) Tryz.underlying25 isz25) rfl ?_; exact rc_yes HQ.out HCM.out HN4.out rfl (msrd_box HXB.out.res HXM.out (B2.gset X B _ _)) (gb_trans HXG.out (B2.gset X B _ _) (fun k hk => .inl (by cases hk; have := EB.out; omega))))
        · have HD1 : Hid (SRd memE w1 (some ⟨g1, 3, none⟩) ((raw3.drop Q).drop 1)) := by have := srd_dropM HR1.out.1 1; rw [Nat.one_mul] at this; exact this
          refine wp_region_held_drew (S := fun _ => True) (by kernel_rfl) trivial (fun hHeld => ?_)
          generalize w1.drew = W0 at HGW HWS ⊢
          refine wpAnyH_take (i := 1) (v := .pointer (some ⟨D, 1, none⟩)) rfl (by kernel_rfl) (by kernel_rfl) (by kernel_rfl) (fun _ _ _ h => h) (Or.inl ⟨by rfl, fun w hSw => ?_⟩) (by assumption) ?_
          · go_simp
          (try simp only [Act.put]); (try simp only [List.setIfInBounds_toArray]); (try simp only [List.set_cons_succ]); (try simp only [List.set_cons_zero])
          refine wpAnyH_take (i := 3) (v := .int .i64 (Q : Int)) rfl (by kernel_rfl) (by kernel_rfl) (by kernel_rfl) (fun _ _ _ h => h) (Or.inl ⟨by rfl, fun w hSw => ?_⟩) (by assumption) ?_
          · go_simp
          (try simp only [Act.put]); (try simp only [List.setIfInBounds_toArray]); (try simp only [List.set_cons_succ]); (try simp only [List.set_cons_zero])
          refine wpAnyH_take (i := 6) (v := .slice (some ⟨g1, 0, none⟩) (n - Q) cc1) rfl (by kernel_rfl) (by kernel_rfl) (by kernel_rfl) (fun _ _ _ h => h) (Or.inl ⟨by rfl, fun w hSw => ?_⟩) (by assumption) ?_
          · go_simp
          (try simp only [Act.put]); (try simp only [List.setIfInBounds_toArray]); (try simp only [List.set_cons_succ]); (try simp only [List.set_cons_zero])
          refine wpAnyH_take (i := 7) (v := .slice (some ⟨g1, 3, none⟩) (n - Q - 1) (cc1 - 1)) rfl (by kernel_rfl) (by kernel_rfl) (by kernel_rfl) (fun _ _ _ h => h) (Or.inl ⟨by rfl, fun w hSw => ?_⟩) (by assumption) ?_
          · go_simp
          (try simp only [Act.put]); (try simp only [List.setIfInBounds_toArray]); (try simp only [List.set_cons_succ]); (try simp only [List.set_cons_zero])
          refine wpAnyH_ready (rs := [0, 2]) (by kernel_rfl) (by simp) (AllReadyH.cons (i := 0) rfl (fun K9 hK => ?_) (AllReadyH.cons (i := 2) rfl (fun K9 hK => ?_) AllReadyH.nil))
          · go_simp
            have HGm : Hid (w1.grownBy (W0.alloc (.cells #[] 61)) none) := HGW.out.trans (World.grownBy_alloc W0 _ none)
            refine hK.out _ _ trivial (fun hHeld => ?_)
            clear hK K9 
            (try simp only [Act.put]); (try simp only [List.setIfInBounds_toArray]); (try simp only [List.set_cons_succ]); (try simp only [List.set_cons_zero])
            refine wpAnyH_ready (rs := [2]) (by kernel_rfl) (by simp) (AllReadyH.cons (i := 2) rfl (fun K9 hK => ?_) AllReadyH.nil)
            have z9 := HGm.out.cell d9.out (by simp)
            go_simp
            refine hK.out _ _ trivial (fun hHeld => ?_)
            clear hK K9 z9
            (try simp only [Act.put]); (try simp only [List.setIfInBounds_toArray]); (try simp only [List.set_cons_succ]); (try simp only [List.set_cons_zero])
            refine wpAnyH_take (i := 4) (v := .slice (some ⟨g3, 0, none⟩) Q c3) rfl (by kernel_rfl) (by kernel_rfl) (by kernel_rfl) (fun _ _ _ h => h) (Or.inl ⟨by rfl, fun w hSw => ?_⟩) (by assumption) ?_
            · go_simp
            (try simp only [Act.put]); (try simp only [List.setIfInBounds_toArray]); (try simp only [List.set_cons_succ]); (try simp only [List.set_cons_zero])
            refine wpAnyH_ready (rs := [5]) (by kernel_rfl) (by simp) (AllReadyH.cons (i := 5) rfl (fun K9 hK => ?_) AllReadyH.nil)
            refine step_append_A memT23 rfl (.tmp 94) (.tmp 98) rfl W0.heap.size (.slice (some ⟨W0.heap.size, 0, none⟩) 0 0) 0 [] (by simp [Act.eval]) (SOwn.empty memE 61 W0) (some ⟨g3, 0, none⟩) (raw3.take Q) Q c3 (by simp [Act.eval]) et (HTk.out.grown (HR1.out.2.trans HGm.out) (by simp)) (by simp) (by omega) (by unfold maxLen; omega) (by rw [size_alloc]; omega) ?_
            intro v2 w2 ho2 hg2 hl2
            have h12 : Hid (w1.grownBy w2 none) := HGW.out.trans (fresh61 hg2)
            have HW2 : Hid (W0.heap.size ≤ w2.heap.size) := (fresh61 hg2).size
            replace ho2 : Hid _ := ho2
            refine hK.out _ _ trivial (fun hHeld => ?_)
            clear hK K9 hg2 hl2
            (try simp only [Act.put]); (try simp only [List.setIfInBounds_toArray]); (try simp only [List.set_cons_succ]); (try simp only [List.set_cons_zero])
            refine wpAnyH_ready (rs := [8]) (by kernel_rfl) (by simp) (AllReadyH.cons (i := 8) rfl (fun K9 hK => ?_) AllReadyH.nil)
            refine step_append_A memT23 rfl (.tmp 99) (.tmp 101) rfl W0.heap.size v2 (0 + Q) ([] ++ raw3.take Q) (by simp [Act.eval]) ho2.out (some ⟨g1, 3, none⟩) ((raw3.drop Q).drop 1) (n - Q - 1) (cc1 - 1) (by simp [Act.eval] <;> omega) ed1 (HD1.out.grown h12.out (by simp)) (by simp) (by omega) (by unfold maxLen; omega) HW2.out ?_
            intro v4 w4 ho4 hg4 hl4
            rw [EN4.out] at ho4
            obtain ⟨a4, c4, e4⟩ := sown_slice ho4
            subst e4
            have h14 : Hid (V.grownBy w4 none) := HR1.out.2.trans (gb_trans h12.out hg4 (fun k hk => .inl (by have := (SOwn.block ho2.out k hk).1; have := HWS.out; omega)))
            have hv4 : Hid (w4.heap[D]? = some (.cells #[.int .u64 (E + 1), .slice (some ⟨g3, 0, none⟩) n c3] 25 (0, 0))) := HV4F.out w4 h14.out
            obtain ⟨z0, z1⟩ := cell2 hv4.out
            have fz := free_row hv4.out 1
            have MS4 : Hid (MsRd w4 a4 (ms.take Q ++ ms.drop (Q + 1)) (raw3.take Q ++ raw3.drop (Q + 1))) := ms_del HMV.out HN.out hQn h14.out (by have := SOwn.rd ho4; rw [List.nil_append, List.drop_drop] at this; exact this)
            refine hK.out _ _ trivial (fun hHeld => ?_)
            clear hK K9 ho4 hg4 hl4
            (try simp only [Act.put]); (try simp only [List.setIfInBounds_toArray]); (try simp only [List.set_cons_succ]); (try simp only [List.set_cons_zero])
            refine wpAnyH_take (i := 9) (v := .pointer (some ⟨D, 1, none⟩)) rfl (by kernel_rfl) (by kernel_rfl) (by kernel_rfl) (fun _ _ _ h => h) (Or.inl ⟨by rfl, fun w hSw => ?_⟩) (by assumption) ?_
            · go_simp
            (try simp only [Act.put]); (try simp only [List.setIfInBounds_toArray]); (try simp only [List.set_cons_succ]); (try simp only [List.set_cons_zero])
            refine wpAnyH_ready (rs := [10]) (by kernel_rfl) (by simp) (AllReadyH.cons (i := 10) rfl (fun K9 hK => ?_) AllReadyH.nil)
            go_simp
            refine hK.out _ _ trivial (fun hHeld => ?_)
            clear hK K9 
            (try simp only [Act.put]); (try simp only [List.setIfInBounds_toArray]); (try simp only [List.set_cons_succ]); (try simp only [List.set_cons_zero])
            refine wpAnyH_done (by kernel_rfl) ?_ _
            clear hHeld z0 z1 fz
            have HXD : Hid ((w4.setCell ⟨D, 1, none⟩ (.slice a4 n4 c4)).heap[D]? = some (.cells #[.int .u64 (E + 1), .slice a4 n4 c4] 25 (0, 0))) := set2 hv4.out _
            have HXB : Hid (B2 (w4.setCell ⟨D, 1, none⟩ (.slice a4 n4 c4)) B E (.slice (some ⟨ba, off, none⟩) n c) 0 (.slice none 0 0)) := by
              have h9 := HBV.out.grown h14.out
              have hne : B + 1 < D := by have := HBV3.out; have := ED.out; omega
              exact ⟨by rw [set_other _ (by omega)]; exact h9.arg, by rw [set_other _ (by omega)]; exact h9.res⟩
            have HXM : Hid (MsRd (w4.setCell ⟨D, 1, none⟩ (.slice a4 n4 c4)) a4 (ms.take Q ++ ms.drop (Q + 1)) (raw3.take Q ++ raw3.drop (Q + 1))) := msrd_box hv4.out MS4.out (gb_set (g := D) rfl)
            have HXG : Hid (w.grownBy (w4.setCell ⟨D, 1, none⟩ (.slice a4 n4 c4)) none) := gb_trans (HG.out.trans h14.out) (gb_set (g := D) rfl) (fun k hk => .inl (by cases hk; have := HG3.out.size; have := ED.out; omega))
            generalize w4.setCell ⟨D, 1, none⟩ (.slice a4 n4 c4) = X at *
            obtain ⟨s0, s1'⟩ := cell2 HXD.out
            obtain ⟨r0, r1⟩ := cell2 HXB.out.res
            have ft0 := free_row HXB.out.res 0
            have ft1 := free_row HXB.out.res 1
            go_wp2
            all_goals (refine bodyPost_ret (v := .tuple #[.agg #[.int .u64 (E + 1), .slice a4 n4 c4], .int .i64 0]) (results_row_tmp Tryz.results23 _ _ _ (B + 1) 25 _ (0, 0) _ rfl (HXB.out.set (E + 1) (.slice a4 n4 c4)) Tryz.underlying25 isz25) rfl ?_; exact rc_yes HQ.out HCM.out HN4.out rfl (msrd_box HXB.out.res HXM.out (B2.gset X B _ _)) (gb_trans HXG.out (B2.gset X B _ _) (fun k hk => .inl (by cases hk; have := EB.out; omega))))
          · have z9 := HGW.out.cell d9.out (by simp)
            go_simp
            refine hK.out _ _ trivial (fun hHeld => ?_)
            clear hK K9 z9
            (try simp only [Act.put]); (try simp only [List.setIfInBounds_toArray]); (try simp only [List.set_cons_succ]); (try simp only [List.set_cons_zero])
            refine wpAnyH_take (i := 4) (v := .slice (some ⟨g3, 0, none⟩) Q c3) rfl (by kernel_rfl) (by kernel_rfl) (by kernel_rfl) (fun _ _ _ h => h) (Or.inl ⟨by rfl, fun w hSw => ?_⟩) (by assumption) ?_
            · go_simp
            (try simp only [Act.put]); (try simp only [List.setIfInBounds_toArray]); (try simp only [List.set_cons_succ]); (try simp only [List.set_cons_zero])
            refine wpAnyH_ready (rs := [0]) (by kernel_rfl) (by simp) (AllReadyH.cons (i := 0) rfl (fun K9 hK => ?_) AllReadyH.nil)
            go_simp
            have HGm : Hid (w1.grownBy (W0.alloc (.cells #[] 61)) none) := HGW.out.trans (World.grownBy_alloc W0 _ none)
            refine hK.out _ _ trivial (fun hHeld => ?_)
            clear hK K9 
            (try simp only [Act.put]); (try simp only [List.setIfInBounds_toArray]); (try simp only [List.set_cons_succ]); (try simp only [List.set_cons_zero])
            refine wpAnyH_ready (rs := [5]) (by kernel_rfl) (by simp) (AllReadyH.cons (i := 5) rfl (fun K9 hK => ?_) AllReadyH.nil)
            refine step_append_A memT23 rfl (.tmp 94) (.tmp 98) rfl W0.heap.size (.slice (some ⟨W0.heap.size, 0, none⟩) 0 0) 0 [] (by simp [Act.eval]) (SOwn.empty memE 61 W0) (some ⟨g3, 0, none⟩) (raw3.take Q) Q c3 (by simp [Act.eval]) et (HTk.out.grown (HR1.out.2.trans HGm.out) (by simp)) (by simp) (by omega) (by unfold maxLen; omega) (by rw [size_alloc]; omega) ?_
            intro v2 w2 ho2 hg2 hl2
            have h12 : Hid (w1.grownBy w2 none) := HGW.out.trans (fresh61 hg2)
            have HW2 : Hid (W0.heap.size ≤ w2.heap.size) := (fresh61 hg2).size
            replace ho2 : Hid _ := ho2
            refine hK.out _ _ trivial (fun hHeld => ?_)
            clear hK K9 hg2 hl2
            (try simp only [Act.put]); (try simp only [List.setIfInBounds_toArray]); (try simp only [List.set_cons_succ]); (try simp only [List.set_cons_zero])
            refine wpAnyH_ready (rs := [8]) (by kernel_rfl) (by simp) (AllReadyH.cons (i := 8) rfl (fun K9 hK => ?_) AllReadyH.nil)
            refine step_append_A memT23 rfl (.tmp 99) (.tmp 101) rfl W0.heap.size v2 (0 + Q) ([] ++ raw3.take Q) (by simp [Act.eval]) ho2.out (some ⟨g1, 3, none⟩) ((raw3.drop Q).drop 1) (n - Q - 1) (cc1 - 1) (by simp [Act.eval] <;> omega) ed1 (HD1.out.grown h12.out (by simp)) (by simp) (by omega) (by unfold maxLen; omega) HW2.out ?_
            intro v4 w4 ho4 hg4 hl4
            rw [EN4.out] at ho4
            obtain ⟨a4, c4, e4⟩ := sown_slice ho4
            subst e4
            have h14 : Hid (V.grownBy w4 none) := HR1.out.2.trans (gb_trans h12.out hg4 (fun k hk => .inl (by have := (SOwn.block ho2.out k hk).1; have := HWS.out; omega)))
            have hv4 : Hid (w4.heap[D]? = some (.cells #[.int .u64 (E + 1), .slice (some ⟨g3, 0, none⟩) n c3] 25 (0, 0))) := HV4F.out w4 h14.out
            obtain ⟨z0, z1⟩ := cell2 hv4.out
            have fz := free_row hv4.out 1
            have MS4 : Hid (MsRd w4 a4 (ms.take Q ++ ms.drop (Q + 1)) (raw3.take Q ++ raw3.drop (Q + 1))) := ms_del HMV.out HN.out hQn h14.out (by have := SOwn.rd ho4; rw [List.nil_append, List.drop_drop] at this; exact this)
            refine hK.out _ _ trivial (fun hHeld => ?_)
            clear hK K9 ho4 hg4 hl4
            (try simp only [Act.put]); (try simp only [List.setIfInBounds_toArray]); (try simp only [List.set_cons_succ]); (try simp only [List.set_cons_zero])
            refine wpAnyH_take (i := 9) (v := .pointer (some ⟨D, 1, none⟩)) rfl (by kernel_rfl) (by kernel_rfl) (by kernel_rfl) (fun _ _ _ h => h) (Or.inl ⟨by rfl, fun w hSw => ?_⟩) (by assumption) ?_
            · go_simp
            (try simp only [Act.put]); (try simp only [List.setIfInBounds_toArray]); (try simp only [List.set_cons_succ]); (try simp only [List.set_cons_zero])
            refine wpAnyH_ready (rs := [10]) (by kernel_rfl) (by simp) (AllReadyH.cons (i := 10) rfl (fun K9 hK => ?_) AllReadyH.nil)
            go_simp
            refine hK.out _ _ trivial (fun hHeld => ?_)
            clear hK K9 
            (try simp only [Act.put]); (try simp only [List.setIfInBounds_toArray]); (try simp only [List.set_cons_succ]); (try simp only [List.set_cons_zero])
            refine wpAnyH_done (by kernel_rfl) ?_ _
            clear hHeld z0 z1 fz
            have HXD : Hid ((w4.setCell ⟨D, 1, none⟩ (.slice a4 n4 c4)).heap[D]? = some (.cells #[.int .u64 (E + 1), .slice a4 n4 c4] 25 (0, 0))) := set2 hv4.out _
            have HXB : Hid (B2 (w4.setCell ⟨D, 1, none⟩ (.slice a4 n4 c4)) B E (.slice (some ⟨ba, off, none⟩) n c) 0 (.slice none 0 0)) := by
              have h9 := HBV.out.grown h14.out
              have hne : B + 1 < D := by have := HBV3.out; have := ED.out; omega
              exact ⟨by rw [set_other _ (by omega)]; exact h9.arg, by rw [set_other _ (by omega)]; exact h9.res⟩
            have HXM : Hid (MsRd (w4.setCell ⟨D, 1, none⟩ (.slice a4 n4 c4)) a4 (ms.take Q ++ ms.drop (Q + 1)) (raw3.take Q ++ raw3.drop (Q + 1))) := msrd_box hv4.out MS4.out (gb_set (g := D) rfl)
            have HXG : Hid (w.grownBy (w4.setCell ⟨D, 1, none⟩ (.slice a4 n4 c4)) none) := gb_trans (HG.out.trans h14.out) (gb_set (g := D) rfl) (fun k hk => .inl (by cases hk; have := HG3.out.size; have := ED.out; omega))
            generalize w4.setCell ⟨D, 1, none⟩ (.slice a4 n4 c4) = X at *
            obtain ⟨s0, s1'⟩ := cell2 HXD.out
            obtain ⟨r0, r1⟩ := cell2 HXB.out.res
            have ft0 := free_row HXB.out.res 0
            have ft1 := free_row HXB.out.res 1
            go_wp2
            all_goals (refine bodyPost_ret (v := .tuple #[.agg #[.int .u64 (E + 1), .slice a4 n4 c4], .int .i64 0]) (results_row_tmp Tryz.results23 _ _ _ (B + 1) 25 _ (0, 0) _ rfl (HXB.out.set (E + 1) (.slice a4 n4 c4)) Tryz.underlying25 isz25) rfl ?_; exact rc_yes HQ.out HCM.out HN4.out rfl (msrd_box HXB.out.res HXM.out (B2.gset X B _ _)) (gb_trans HXG.out (B2.gset X B _ _) (fun k hk => .inl (by cases hk; have := EB.out; omega))))
      · have hb9 : (s1 != 3) = true := by simp [hs]
        have HQ : Hid (chgE 3 E ms id = 132) := by show _ = _; rw [HIN.out, if_neg hs]
        clear hs
        obtain ⟨r0, r1⟩ := cell2 HB2.out.res
        have f0 := free_row HB2.out.res 0
        have f1 := free_row HB2.out.res 1
        go_wp2
        refine bodyPost_ret (v := .tuple #[.agg #[.int .u64 0, .slice none 0 0], .int .i64 132]) (results_row_tmp Tryz.results23 _ _ _ (B + 1) 25 _ (0, 0) _ rfl (HB2.out.set 0 (.slice none 0 0)) Tryz.underlying25 isz25) rfl ?_
        exact rc_no HQ.out (by decide) rfl (gb_trans HG.out (B2.gset u2 B 0 _) (fun k hk => .inl (by cases hk; have := EB.out; omega)))
  · have HQ : Hid (chgE 3 E ms id = 130) := by show _ = _; unfold chgE; rw [if_neg hok]
    have HCS : Hid ((chkC ms != 0) = true ∨ (chkC ms != 0) = false ∧ ((E == 18446744073709551615) = true ∨ (E == 18446744073709551615) = false ∧ (id < 0 ∨ ¬ id < 0 ∧ 16 ≤ id))) := by
      by_cases ho : ringOk ms = true
      · refine .inr ⟨by unfold chkC; rw [if_pos ho]; rfl, ?_⟩
        by_cases h1 : E = 18446744073709551615
        · exact .inl (by simp [h1])
        · refine .inr ⟨by simp [h1], ?_⟩
          by_cases h2 : id < 0
          · exact .inl h2
          · refine .inr ⟨h2, ?_⟩
            apply Classical.byContradiction
            intro h3
            exact hok ⟨ho, h1, by unfold idOk; simp; omega⟩
      · exact .inl (by unfold chkC; rw [if_neg ho]; rfl)
    generalize chkC ms = q at *
    clear hr hz hz2 g0 eB hok
    go_enter Tryz.func23, Tryz.ntmps23
    go_wp2_with fail
    try rw [EB.out]
    generalize ((w.alloc (.cells #[.int .u64 E, .slice a n c] 25)).alloc (.cells #[.int .u64 0, .slice none 0 0] 25)) = W at *
    refine CK.mono ?_
    clear CK p0 p1
    rintro e u1 ⟨rfl, g9⟩
    have HB1 : Hid (B2 u1 B E (.slice a n c) 0 (.slice none 0 0)) := HB0.out.grown g9
    replace HG : Hid (w.grownBy u1 none) := HG.out.trans g9
    clear g9 HB0
    obtain ⟨p0, p1⟩ := cell2 HB1.out.arg
    rcases HCS.out with h1 | ⟨h1, h2 | ⟨h2, h3 | ⟨h3, h4⟩⟩⟩
    · obtain ⟨r0, r1⟩ := cell2 HB1.out.res
      have f0 := free_row HB1.out.res 0
      have f1 := free_row HB1.out.res 1
      go_wp2
      refine bodyPost_ret (v := .tuple #[.agg #[.int .u64 0, .slice none 0 0], .int .i64 130]) (results_row_tmp Tryz.results23 _ _ _ (B + 1) 25 _ (0, 0) _ rfl (HB1.out.set 0 (.slice none 0 0)) Tryz.underlying25 isz25) rfl ?_
      exact rc_no HQ.out (by decide) rfl (gb_trans HG.out (B2.gset u1 B 0 _) (fun k hk => .inl (by cases hk; have := EB.out; omega)))
    · obtain ⟨r0, r1⟩ := cell2 HB1.out.res
      have f0 := free_row HB1.out.res 0
      have f1 := free_row HB1.out.res 1
      go_wp2
      refine bodyPost_ret (v := .tuple #[.agg #[.int .u64 0, .slice none 0 0], .int .i64 130]) (results_row_tmp Tryz.results23 _ _ _ (B + 1) 25 _ (0, 0) _ rfl (HB1.out.set 0 (.slice none 0 0)) Tryz.underlying25 isz25) rfl ?_
      exact rc_no HQ.out (by decide) rfl (gb_trans HG.out (B2.gset u1 B 0 _) (fun k hk => .inl (by cases hk; have := EB.out; omega)))
    · obtain ⟨r0, r1⟩ := cell2 HB1.out.res
      have f0 := free_row HB1.out.res 0
      have f1 := free_row HB1.out.res 1
      go_wp2
      refine bodyPost_ret (v := .tuple #[.agg #[.int .u64 0, .slice none 0 0], .int .i64 130]) (results_row_tmp Tryz.results23 _ _ _ (B + 1) 25 _ (0, 0) _ rfl (HB1.out.set 0 (.slice none 0 0)) Tryz.underlying25 isz25) rfl ?_
      exact rc_no HQ.out (by decide) rfl (gb_trans HG.out (B2.gset u1 B 0 _) (fun k hk => .inl (by cases hk; have := EB.out; omega)))
    · obtain ⟨r0, r1⟩ := cell2 HB1.out.res
      have f0 := free_row HB1.out.res 0
      have f1 := free_row HB1.out.res 1
      go_wp2
      refine bodyPost_ret (v := .tuple #[.agg #[.int .u64 0, .slice none 0 0], .int .i64 130]) (results_row_tmp Tryz.results23 _ _ _ (B + 1) 25 _ (0, 0) _ rfl (HB1.out.set 0 (.slice none 0 0)) Tryz.underlying25 isz25) rfl ?_
      exact rc_no HQ.out (by decide) rfl (gb_trans HG.out (B2.gset u1 B 0 _) (fun k hk => .inl (by cases hk; have := EB.out; omega)))
end Go.Proofs.YtaljjemickonaaaGreat

