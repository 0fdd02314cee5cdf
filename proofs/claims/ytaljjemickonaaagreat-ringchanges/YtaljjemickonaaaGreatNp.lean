/- Several texts in one: Vc, Vd, Ve. -/
import Derived.Test.YtaljjemickonaaaGreatNo
/- Rings: the document's Copy. -/
namespace Go.Proofs.YtaljjemickonaaaGreat
open Go.RowKit
set_option linter.unusedVariables false
set_option maxRecDepth 20000

set_option maxHeartbeats 8000000 in
theorem r_copy (E : Int) (a : Option Addr) (raw : List MRow) (ms : List Mem) (L c : Nat) (w : World) (hx : MsRd w a ms raw) (hL : ms.length = L) (hz : L ≤ 3518437208880) (hz2 : ∀ s ∈ ms, s.2.2.length ≤ 35184372088832) :
    Calls Tryz.prog 54 #[.agg #[.int .u64 E, .slice a L c]] w fun e w' => ∃ a' c' raw', e = .returned (.agg #[.int .u64 E, .slice a' L c']) ∧ MsOwn w' w.heap.size (.slice a' L c') ms raw' ∧ w.grownBy w' none := by
  have HX : Hid (MsRd w a ms raw) := hx
  have HL : Hid (ms.length = L) := hL
  have HZ : Hid (∀ s ∈ ms, s.2.2.length ≤ 35184372088832) := hz2
  have HCB : Hid (CB (((w.alloc (.cells #[.int .u64 E, .slice a L c] 25)).alloc (.cells #[.int .u64 0, .slice none 0 0] 25)).alloc (.cells #[.int .u64 E, .slice none 0 0] 25)) w.heap.size E (.slice a L c) (.slice none 0 0)) := CB.made w E _
  have HG : Hid (w.grownBy (((w.alloc (.cells #[.int .u64 E, .slice a L c] 25)).alloc (.cells #[.int .u64 0, .slice none 0 0] 25)).alloc (.cells #[.int .u64 E, .slice none 0 0] 25)) none) := ((World.grownBy_alloc _ _ none).trans (World.grownBy_alloc _ _ none)).trans (World.grownBy_alloc _ _ none)
  clear hx hL hz2
  go_enter Tryz.func54, Tryz.ntmps54
  go_wp2
  generalize (((w.alloc (.cells #[.int .u64 E, .slice a L c] 25)).alloc (.cells #[.int .u64 0, .slice none 0 0] 25)).alloc (.cells #[.int .u64 E, .slice none 0 0] 25)) = W at HCB HG ⊢
  obtain ⟨N, eN⟩ : ∃ N, w.heap.size = N := ⟨_, rfl⟩
  rw [eN] at HCB ⊢
  have EN : Hid (w.heap.size = N) := eN
  clear eN
  go_loopw [4] (fun i wr => ∃ (k : Nat) (V : Value) (raw' : List MRow), k ≤ L ∧ i = .int .i64 k ∧ CB wr N E (.slice a L c) V ∧ MsOwn wr (N + 3) V (ms.take k) raw' ∧ w.grownBy wr none) (fun i _ => L - (intOf i).toNat)
  case atStart => exact ⟨0, _, [], Nat.zero_le _, rfl, HCB.out, by rw [List.take_zero]; exact MsOwn.nil _ _, HG.out⟩
  case round =>
    obtain ⟨k, V, raw', hk, rfl, hcb, hown, hg⟩ := hrel
    obtain ⟨Va, Vc, eV⟩ : ∃ Va Vc, V = .slice Va k Vc := by
      obtain ⟨Va, Vc, e⟩ := sown_slice hown.row
      refine ⟨Va, Vc, ?_⟩
      rw [e, List.length_take, HL.out, Nat.min_eq_left hk]
    subst eV
    have HB : Hid (CB wr N E (.slice a L c) (.slice Va k Vc)) := hcb
    have HO : Hid (MsOwn wr (N + 3) (.slice Va k Vc) (ms.take k) raw') := hown
    have HG2 : Hid (w.grownBy wr none) := hg
    have c1 := (cell2 hcb.arg).2
    clear hcb hown hg
    by_cases hlt : k < L
    · have hki : (k : Int) < (L : Int) := by omega
      have hl := HL.out
      obtain ⟨⟨i1, s1, t1⟩, ex⟩ : ∃ x, ms[k]? = some x := ⟨_, List.getElem?_eq_getElem (by omega)⟩
      obtain ⟨ba, off, ta, tc, rfl, a0, a1, a2, rt, hnil⟩ := (HX.out.grown HG2.out).cells ex
      have z1 := HZ.out _ (List.mem_of_getElem? ex)
      simp only at a0 a1 a2 rt z1
      obtain ⟨n1, en1⟩ : ∃ n1, t1.length = n1 := ⟨_, rfl⟩
      rw [en1] at a2 z1
      have EN1 : Hid (t1.length = n1) := en1
      have EX : Hid (ms[k]? = some (i1, s1, t1)) := ex
      have g5 := World.grownBy_alloc wr (.cells #[.int .i64 i1, .int .i64 s1, .slice ta n1 tc] 61) none
      have HRT : Hid (SRd wordE wr ta t1) := rt
      have HNIL : Hid (ta = none → tc = 0) := hnil
      have H5 : Hid ((wr.alloc (.cells #[.int .i64 i1, .int .i64 s1, .slice ta n1 tc] 61)).heap[wr.heap.size]? = some (.cells #[.int .i64 i1, .int .i64 s1, .slice ta n1 tc] 61 (0, 0))) := heap_alloc_new wr _
      have S5 : Hid ((wr.alloc (.cells #[.int .i64 i1, .int .i64 s1, .slice ta n1 tc] 61)).heap.size = wr.heap.size + 1) := size_alloc wr _
      have G5 : Hid (wr.grownBy (wr.alloc (.cells #[.int .i64 i1, .int .i64 s1, .slice ta n1 tc] 61)) none) := g5
      clear ex rt en1 hnil g5 hl
      obtain ⟨B, eB⟩ : ∃ B, wr.heap.size = B := ⟨_, rfl⟩
      go_upto_region 6 with fail
      generalize wr.alloc (.cells #[.int .i64 i1, .int .i64 s1, .slice ta n1 tc] 61) = W5 at H5 S5 G5 ⊢
      try rw [eB]
      have HA1 : Hid (∀ v1 w6, SOwn wordE 43 w6 W5.heap.size v1 (0 + n1) ([] ++ t1) → (W5.alloc (.cells #[] 43)).grownBy w6 (Value.slice (some ⟨W5.heap.size, 0, none⟩) 0 0).ownBlock → (v1 = .slice none 0 0 → (Value.slice (some ⟨W5.heap.size, 0, none⟩) 0 0) = .slice none 0 0 ∧ n1 = 0) → ∃ g cg, v1 = .slice (some ⟨g, 0, none⟩) n1 cg ∧ w6.cell? ⟨B, 2, none⟩ = some (.slice ta n1 tc) ∧ w6.frozen? ⟨B, 2, none⟩ = false ∧ Hid (SOwn wordE 43 w6 W5.heap.size (.slice (some ⟨g, 0, none⟩) n1 cg) n1 t1 ∧ W5.grownBy w6 none)) := by
        intro v1 w6 ho1 hg1 hn1
        rw [List.nil_append, Nat.zero_add] at ho1
        obtain ⟨g, c9, rfl, ho⟩ := sown_some ho1 (fun e => by simpa using (hn1 e).1)
        have hgg : W5.grownBy w6 none := gb_trans (World.grownBy_alloc W5 _ none) hg1 (fun i hi => .inl (by simp [Value.ownBlock] at hi; omega))
        have hB6 : w6.heap[B]? = some (.cells #[.int .i64 i1, .int .i64 s1, .slice ta n1 tc] 61 (0, 0)) := by
          rw [← eB, hgg.block _ (by rw [S5.out]; omega) (by simp)]; exact H5.out
        exact ⟨g, c9, rfl, (cell3 hB6).2.2, free_row hB6 2, ho, hgg⟩
      have z5 : (W5.alloc (.cells #[] 43)).cell? ⟨B, 2, none⟩ = some (.slice ta n1 tc) := by
        have h5 := H5.out
        rw [eB] at h5
        exact (World.grownBy_alloc W5 _ none).cell (cell3 h5).2.2 (by simp)
      have EB : Hid (wr.heap.size = B) := eB
      clear eB
      go_upto_region 7 with (at_builtin; refine wpList_append_s wordT rfl (.tmp 21) (.tmp 23) rfl W5.heap.size (.slice (some ⟨W5.heap.size, 0, none⟩) 0 0) 0 [] rfl (SOwn.empty wordE 43 W5) ta t1 n1 tc rfl EN1.out (HRT.out.grown (G5.out.trans (World.grownBy_alloc W5 _ none)) (by simp)) HNIL.out (by omega) (by unfold maxLen; omega) (by rw [size_alloc]; omega) ?_; intro v1 w6 ho1 hg1 hn1; obtain ⟨g, cg, e1, q2w, f2w, HR6⟩ := HA1.out v1 w6 ho1 hg1 hn1; subst e1; clear ho1 hg1 hn1)
      have eB := EB.out
      obtain ⟨ho6, hg6⟩ := HR6.out
      clear z5 q2w f2w HA1 HR6
      have hB6 : w6.heap[B]? = some (.cells #[.int .i64 i1, .int .i64 s1, .slice ta n1 tc] 61 (0, 0)) := by
        rw [← eB, hg6.block _ (by rw [S5.out]; omega) (by simp)]; exact H5.out
      have hNB : N + 2 < B := by rw [← eB]; exact HB.out.lt
      have HW6 : Hid (wr.grownBy w6 none) := G5.out.trans hg6
      have HB6 : Hid (CB w6 N E (.slice (some ⟨ba, off, none⟩) L c) (.slice Va k Vc)) := HB.out.grown HW6.out (by simp)
      have HO6 : Hid (MsOwn w6 (N + 3) (.slice Va k Vc) (ms.take k) raw') := HO.out.kept HW6.out (by simp)
      have HVB : Hid ((Value.slice Va k Vc).ownBlock ≠ some B) := fun e => by
        have := (SOwn.block HO.out.row B e).2
        omega
      have HSZ6 : Hid (B + 1 ≤ w6.heap.size) := by have := hg6.size; rw [S5.out, eB] at this; exact this
      have HO7 : Hid (SOwn wordE 43 w6 (B + 1) (.slice (some ⟨g, 0, none⟩) n1 cg) n1 t1) := by rw [S5.out, eB] at ho6; exact ho6
      obtain ⟨q0, q1, q2⟩ := cell3 hB6
      have f2 := free_row hB6 2
      have HBB : Hid (w6.heap[B]? = some (.cells #[.int .i64 i1, .int .i64 s1, .slice ta n1 tc] 61 (0, 0))) := hB6
      have k1 := (cell2 HB6.out.out).2
      have f1 := free_row HB6.out.out 1
      have hne : N + 2 ≠ B := by omega
      have gs : w6.grownBy (w6.setCell ⟨B, 2, none⟩ (.slice (some ⟨g, 0, none⟩) n1 cg)) (some B) := gb_set rfl
      have k1' : (w6.setCell ⟨B, 2, none⟩ (.slice (some ⟨g, 0, none⟩) n1 cg)).cell? ⟨N + 2, 1, none⟩ = some (.slice Va k Vc) := gs.cell k1 (by simp; omega)
      obtain ⟨q0', q1', q2'⟩ := cell3 (set3 hB6 (.slice (some ⟨g, 0, none⟩) n1 cg))
      have HGS : Hid (w6.grownBy (w6.setCell ⟨B, 2, none⟩ (.slice (some ⟨g, 0, none⟩) n1 cg)) (some B)) := gs
      have HBs : Hid (CB (w6.setCell ⟨B, 2, none⟩ (.slice (some ⟨g, 0, none⟩) n1 cg)) N E (.slice (some ⟨ba, off, none⟩) L c) (.slice Va k Vc)) := HB6.out.grown gs (fun k hk => by cases hk; omega)
      have HOs : Hid (MsOwn (w6.setCell ⟨B, 2, none⟩ (.slice (some ⟨g, 0, none⟩) n1 cg)) (N + 3) (.slice Va k Vc) (ms.take k) raw') := by
        refine ⟨?_, fun i r m hr hm => (HO6.out.mem i r m hr hm).stay (fun k' hk' hb' => ?_)⟩
        · exact SOwn.kept HO6.out.row gs (.inr HVB.out)
        · exact set_other _ (Typed.ne hk' ⟨_, HBB.out⟩ (by decide))
      have HO7s : Hid (SOwn wordE 43 (w6.setCell ⟨B, 2, none⟩ (.slice (some ⟨g, 0, none⟩) n1 cg)) (B + 1) (.slice (some ⟨g, 0, none⟩) n1 cg) n1 t1) := sown_stay HO7.out (fun x hx => by
        cases hx
        exact set_other _ (Typed.ne (sown_typed HO7.out) ⟨_, HBB.out⟩ (by decide)))
      clear ho6 hg6 hB6 eB
      have ga := World.grownBy_alloc (w6.setCell ⟨B, 2, none⟩ (.slice (some ⟨g, 0, none⟩) n1 cg)) (.cells #[.int .i64 i1, .int .i64 s1, .slice (some ⟨g, 0, none⟩) n1 cg] 61) none
      have HOA : Hid (SOwn memE 61 ((w6.setCell ⟨B, 2, none⟩ (.slice (some ⟨g, 0, none⟩) n1 cg)).alloc (.cells #[.int .i64 i1, .int .i64 s1, .slice (some ⟨g, 0, none⟩) n1 cg] 61)) (N + 3) (.slice Va k Vc) k raw') := by
        have := (HOs.out.kept ga (by simp)).row
        rw [List.length_take, HL.out, Nat.min_eq_left hk] at this
        exact this
      have hss : (w6.setCell ⟨B, 2, none⟩ (.slice (some ⟨g, 0, none⟩) n1 cg)).heap.size = w6.heap.size := by simp [World.setCell]
      have HRA : Hid (SRd memE ((w6.setCell ⟨B, 2, none⟩ (.slice (some ⟨g, 0, none⟩) n1 cg)).alloc (.cells #[.int .i64 i1, .int .i64 s1, .slice (some ⟨g, 0, none⟩) n1 cg] 61)) (some ⟨w6.heap.size, 0, none⟩) [(i1, s1, some ⟨g, 0, none⟩, n1, cg)]) := by
        rw [← hss]
        exact srd_lit memE 61 _ [(i1, s1, some ⟨g, 0, none⟩, n1, cg)]
      have HSA : Hid (N + 3 ≤ ((w6.setCell ⟨B, 2, none⟩ (.slice (some ⟨g, 0, none⟩) n1 cg)).alloc (.cells #[.int .i64 i1, .int .i64 s1, .slice (some ⟨g, 0, none⟩) n1 cg] 61)).heap.size) := by
        have := HSZ6.out
        show _ ≤ _
        rw [size_alloc, hss]; omega
      have HNEXT : Hid (∀ v7 w7, SOwn memE 61 w7 (N + 3) v7 (k + 1) (raw' ++ [(i1, s1, some ⟨g, 0, none⟩, n1, cg)]) → ((w6.setCell ⟨B, 2, none⟩ (.slice (some ⟨g, 0, none⟩) n1 cg)).alloc (.cells #[.int .i64 i1, .int .i64 s1, .slice (some ⟨g, 0, none⟩) n1 cg] 61)).grownBy w7 (Value.slice Va k Vc).ownBlock → (∃ a7 c7, v7 = .slice a7 (k + 1) c7) ∧ w7.cell? ⟨N + 2, 1, none⟩ = some (.slice Va k Vc) ∧ w7.frozen? ⟨N + 2, 1, none⟩ = false ∧ Hid (CB w7 N E (.slice (some ⟨ba, off, none⟩) L c) (.slice Va k Vc) ∧ MsOwn w7 (N + 3) v7 (ms.take (k + 1)) (raw' ++ [(i1, s1, some ⟨g, 0, none⟩, n1, cg)]) ∧ w.grownBy w7 none)) := by
        intro v7 w7 ho7 hg7
        have hVb : ∀ j, (Value.slice Va k Vc).ownBlock = some j → N + 2 < j := fun j hj => by have := (SOwn.block HO.out.row j hj).1; omega
        have hcb7 := (HBs.out.grown ga (by simp)).grown hg7 hVb
        refine ⟨sown_slice ho7, (cell2 hcb7.out).2, free_row hcb7.out 1, hcb7, ?_, ?_⟩
        · have e1 : ms.take (k + 1) = ms.take k ++ [(i1, s1, t1)] := by rw [List.take_add_one, EX.out]; rfl
          rw [e1]
          refine own_append (HOs.out.kept ga (by simp)) ?_ hg7 ⟨rfl, rfl, EN1.out.symm, ?_⟩
          · rw [List.length_take, HL.out, Nat.min_eq_left hk]; exact ho7
          · simp only
            rw [EN1.out]
            exact SOwn.base (SOwn.kept HO7s.out ga (.inr (by simp [Value.ownBlock]))) (by omega)
        · refine gb_trans (gb_trans (gb_trans HG2.out HW6.out (by simp)) (HGS.out.trans (gb_any ga _)) (fun j hj => .inl ?_)) hg7 (fun j hj => .inl ?_)
          · cases hj; rw [EN.out]; omega
          · have := hVb j hj; rw [EN.out]; omega
      clear ga hss gs
      go_wp2_with (at_builtin; refine wpList_append_at memT23 rfl (.tmp 27) (.tmp 29) rfl (N + 3) (.slice Va k Vc) k raw' rfl HOA.out ⟨w6.heap.size, 0, none⟩ [(i1, s1, some ⟨g, 0, none⟩, n1, cg)] 1 1 rfl rfl HRA.out (by omega) (by unfold maxLen; omega) HSA.out ?_; intro v7 w7 ho7 hg7 hn7 hl7; obtain ⟨⟨a7, c7, e7⟩, k7, f7, HR7⟩ := HNEXT.out v7 w7 ho7 hg7; clear ho7 hg7 hn7 hl7; subst e7)
      go_roundw
      case rel =>
        refine ⟨k + 1, .slice a7 (k + 1) c7, raw' ++ [(i1, s1, some ⟨g, 0, none⟩, n1, cg)], by omega, by go_num, HR7.out.1.set _, ?_, gb_trans HR7.out.2.2 (gb_set (g := N + 2) rfl) (fun j hj => .inl (by have := EN.out; cases hj; omega))⟩
        exact HR7.out.2.1.kept (gb_set (g := N + 2) rfl) (fun j hj => by cases hj; exact .inl (by omega))
      case measure => simp [intOf]; omega
    · obtain rfl : k = L := by omega
      have HLT : Hid (ms.take k = ms) := List.take_of_length_le (by have := HL.out; omega)
      have HB1 := HB.out
      obtain ⟨q0, q1⟩ := cell2 HB1.out
      obtain ⟨r0, r1⟩ := cell2 HB1.res
      have f0 := free_row HB1.res 0
      have f1 := free_row HB1.res 1
      have HBr : Hid (wr.heap[N + 1]? = some (.cells #[.int .u64 0, .slice none 0 0] 25 (0, 0))) := HB1.res
      clear HB1
      go_wp2
      have gs : wr.grownBy ((wr.setCell ⟨N + 1, 0, none⟩ (.int .u64 E)).setCell ⟨N + 1, 1, none⟩ (.slice Va k Vc)) (some (N + 1)) := gb_trans (gb_set rfl) (gb_set rfl) (fun k hk => .inr hk)
      have ho := HO.out
      rw [HLT.out] at ho
      refine bodyPost_ret (v := .agg #[.int .u64 E, .slice Va k Vc]) (results_cell_row Tryz.results54 _ _ (N + 1) 25 _ (0, 0) _ rfl (pair_set HBr.out _ _) Tryz.underlying25 rfl isz25) rfl ⟨Va, Vc, raw', rfl, ?_, ?_⟩
      · exact (ho.kept gs (fun k hk => by cases hk; exact .inl (by omega))).base (by have := EN.out; omega)
      · exact gb_trans HG2.out gs (fun k hk => .inl (by have := EN.out; cases hk; omega))
end Go.Proofs.YtaljjemickonaaaGreat

/- Rings: the document's Tokens. -/
namespace Go.Proofs.YtaljjemickonaaaGreat
open Go.RowKit
set_option linter.unusedVariables false
set_option maxRecDepth 20000

set_option maxHeartbeats 1000000 in
theorem r_fnv (a : Option Addr) (zs : List Int) (L c : Nat) (w : World) (hr : Rd w a zs) (hL : zs.length = L) (hz : L ≤ 140737488355328) :
    Calls Tryz.prog 51 #[.slice a L c] w fun e w' => e = .returned (.int .u32 (fnvB zs)) ∧ w = w' := by
  have HR : Hid (Rd w a zs) := hr
  have HL : Hid (zs.length = L) := hL
  clear hr hL
  go_enter Tryz.func51, Tryz.ntmps51
  go_wp2
  go_loopw [3, 4] (fun t3 t8 wr => ∃ k : Nat, k ≤ L ∧ t8 = .int .i64 k ∧ t3 = .int .u32 (fnvB (zs.take k)) ∧ w = wr) (fun _ t8 _ => L - (intOf t8).toNat)
  case atStart => exact ⟨0, Nat.zero_le _, rfl, rfl, rfl⟩
  case round =>
    obtain ⟨k, hk, rfl, rfl, rfl⟩ := hrel
    by_cases hlt : k < L
    · have hki : (k : Int) < (L : Int) := by omega
      have hl := HL.out
      obtain ⟨b, off, rfl, hc⟩ := HR.out.at (by omega)
      obtain ⟨x, ex⟩ : ∃ x, zs[k]? = some x := ⟨_, List.getElem?_eq_getElem (by omega)⟩
      have hx : zs.getD k 0 = x := by rw [List.getD_eq_getElem?_getD, ex]; rfl
      have a0 : w.cell? ⟨b, off + k, none⟩ = some (.int .u8 x) := by rw [← hx]; exact hc k (by omega)
      have hb := HR.out.byte k
      rw [hx] at hb
      have hw := wrap_byte x hb
      have EX : Hid (fnvB (zs.take (k + 1)) = fnvStep (fnvB (zs.take k)) x) := fnvB_take ex
      generalize fnvB (zs.take k) = h at EX ⊢
      clear hc ex hx hb hl
      go_wp2
      go_roundw
      case rel => exact ⟨k + 1, by omega, by go_num, by rw [EX.out]; rfl, trivial⟩
      case measure => simp [intOf]; omega
    · obtain rfl : k = L := by omega
      have HT : Hid (fnvB (zs.take k) = fnvB zs) := by show _ = _; rw [List.take_of_length_le (by have := HL.out; omega)]
      go_wp2
      go_ret
      exact ⟨ret_int HT.out, rfl⟩
def tokU (id : Int) : Nat → List Int
  | 0 => []
  | k + 1 => insW (tokH id k) (tokU id k)
theorem tokU_pw (id : Int) : ∀ k, (tokU id k).Pairwise (· < ·)
  | 0 => List.Pairwise.nil
  | k + 1 => insW_pw _ _ (tokU_pw id k)
theorem tokU_len (id : Int) : ∀ k, (tokU id k).length ≤ k
  | 0 => Nat.le_refl _
  | k + 1 => by have := insW_len (tokH id k) (tokU id k); have := tokU_len id k; show (insW _ _).length ≤ _; omega
theorem insW_at (x : Int) : ∀ (l : List Int) (j : Nat), j ≤ l.length → (∀ (i : Nat) (y : Int), i < j → l[i]? = some y → y < x) → (∀ y, l[j]? = some y → x < y) → insW x l = l.take j ++ [x] ++ l.drop j
  | [], j, hj, _, _ => by simp at hj; subst hj; rfl
  | y :: l, 0, _, _, h2 => by
    have := h2 y rfl
    unfold insW
    rw [if_pos this]
    rfl
  | y :: l, j + 1, hj, h1, h2 => by
    have h0 := h1 0 y (by omega) rfl
    have ih := insW_at x l j (by simpa using hj) (fun i z hi hz => h1 (i + 1) z (by omega) (by simpa using hz)) (fun z hz => h2 z (by simpa using hz))
    unfold insW
    rw [if_neg (by omega), if_neg (by omega), ih]
    simp
theorem insW_has (x : Int) : ∀ (l : List Int) (j : Nat), (∀ (i : Nat) (y : Int), i < j → l[i]? = some y → y < x) → l[j]? = some x → insW x l = l
  | [], j, _, h => by simp at h
  | y :: l, 0, _, h => by
    simp at h; subst h
    unfold insW
    rw [if_neg (by omega), if_pos rfl]
  | y :: l, j + 1, h1, h => by
    have h0 := h1 0 y (by omega) rfl
    have ih := insW_has x l j (fun i z hi hz => h1 (i + 1) z (by omega) (by simpa using hz)) (by simpa using h)
    unfold insW
    rw [if_neg (by omega), if_neg (by omega), ih]
end Go.Proofs.YtaljjemickonaaaGreat

/- Rings: the document's Tokens, walked. -/
namespace Go.Proofs.YtaljjemickonaaaGreat
open Go.RowKit
set_option linter.unusedVariables false
set_option maxRecDepth 20000

theorem fresh_gb {W w1 : World} (hg : (W.alloc (.cells #[] 43)).grownBy w1 (Value.slice (some ⟨W.heap.size, 0, none⟩) 0 0).ownBlock) : W.grownBy w1 none :=
  gb_trans (World.grownBy_alloc W _ none) hg (fun i hi => .inl (by simp [Value.ownBlock] at hi; omega))
theorem app3_gb {w1 w2 w3 : World} {v2 : Value} {n2 : Nat} {l2 : List Int} {h : Int} (hg2 : (w1.alloc (.cells #[] 43)).grownBy w2 (Value.slice (some ⟨w1.heap.size, 0, none⟩) 0 0).ownBlock) (ho2 : SOwn wordE 43 w2 w1.heap.size v2 n2 l2) (hg3 : (w2.alloc (.cells #[.int .u32 h] 43)).grownBy w3 v2.ownBlock) : w1.grownBy w3 none :=
  gb_trans ((fresh_gb hg2).trans (World.grownBy_alloc w2 _ none)) hg3 (fun k hk => .inl (SOwn.block ho2 k hk).1)
theorem app4_gb {w1 w3 w4 : World} {v3 : Value} {n3 : Nat} {l3 : List Int} (h13 : w1.grownBy w3 none) (ho3 : SOwn wordE 43 w3 w1.heap.size v3 n3 l3) (hg4 : w3.grownBy w4 v3.ownBlock) : w1.grownBy w4 none :=
  gb_trans h13 hg4 (fun k hk => .inl (SOwn.block ho3 k hk).1)
theorem sown_ne {α : Type} {E : Elem α} {e : TypeId} {w : World} {base n : Nat} {v : Value} {l : List α} (h : SOwn E e w base v n l) (hn : 0 < n) : v ≠ .slice none 0 0 := by
  intro e
  rcases h.2 with ⟨_, h0⟩ | ⟨g, cap, cur, h', _⟩
  · omega
  · rw [e] at h'; simp at h'
theorem srd_takeW {w : World} {a : Option Addr} {l : List Int} (h : SRd wordE w a l) (j : Nat) : SRd wordE w a (l.take j) := by
  rcases h with rfl | ⟨b, off, e2, hc⟩
  · left; simp
  · refine .inr ⟨b, off, e2, fun p q hp => hc p q ?_⟩
    have e3 : wordE.flat l = wordE.flat (l.take j) ++ wordE.flat (l.drop j) := by
      conv => lhs; rw [← List.take_append_drop j l]
      simp only [Elem.flat, List.flatMap_append]
    rw [e3, List.getElem?_append_left (List.getElem?_eq_some_iff.1 hp).1]; exact hp
theorem srd_dropW {w : World} {g : Nat} {l : List Int} (h : SRd wordE w (some ⟨g, 0, none⟩) l) (j : Nat) : SRd wordE w (some ⟨g, j, none⟩) (l.drop j) := by
  rcases h with rfl | ⟨b, off, e2, hc⟩
  · left; simp
  · cases e2
    refine .inr ⟨g, j, rfl, fun p q hp => ?_⟩
    have e3 : wordE.flat l = wordE.flat (l.take j) ++ wordE.flat (l.drop j) := by
      conv => lhs; rw [← List.take_append_drop j l]
      simp only [Elem.flat, List.flatMap_append]
    have hlen : (wordE.flat (l.take j)).length = min j l.length := by rw [wordE.flat_len, List.length_take]; show _ * 1 = _; omega
    have hj : j ≤ l.length := by
      apply Classical.byContradiction
      intro hn
      rw [List.drop_of_length_le (by omega)] at hp
      simp [Elem.flat] at hp
    have := hc (j + p) q (by rw [e3, List.getElem?_append_right (by omega), hlen, show j + p - min j l.length = p by omega]; exact hp)
    rw [Nat.zero_add] at this
    exact this
set_option maxHeartbeats 16000000 in
theorem r_tokens (id : Int) (w : World) :
    Calls Tryz.prog 21 #[.int .i64 id] w fun e w' => ∃ a c, e = .returned (.slice a (tokL id).length c) ∧ SRd wordE w' a (tokL id) ∧ (∀ x, a = some x → w.heap.size ≤ x.block) ∧ w.grownBy w' none := by
  have HTL : Hid (tokU id 4 = tokL id) := rfl
  generalize tokL id = TL at HTL ⊢
  have HP1 : Hid (∀ u, Calls Tryz.prog 52 #[.slice none 0 0, .int .u64 (IntKind.u64.wrap id)] u fun e w' => ∃ g c N, e = .returned (.slice (some ⟨g, 0, none⟩) N c) ∧ Own w' u.heap.size g N c ([] ++ enc (IntKind.u64.wrap id).toNat) ∧ u.grownBy w' none) := fun u => rputuint none [] 0 0 (IntKind.u64.wrap id) u ⟨.inl rfl, by simp⟩ rfl (fun _ => rfl) (by omega) (wrap64_range id)
  go_enter Tryz.func21, Tryz.ntmps21
  go_wp2
  go_loopw [3, 4] (fun t3 t4 wr => ∃ (k : Nat) (oa : Option Addr) (oc : Nat), k ≤ 4 ∧ t4 = .int .i64 k ∧ t3 = .slice oa (tokU id k).length oc ∧ SRd wordE wr oa (tokU id k) ∧ ((oa = none ∧ oc = 0 ∧ tokU id k = []) ∨ ∃ g, oa = some ⟨g, 0, none⟩) ∧ (tokU id k).length ≤ oc ∧ (∀ x, oa = some x → w.heap.size ≤ x.block) ∧ w.grownBy wr none) (fun _ t4 _ => 4 - (intOf t4).toNat)
  case atStart => exact ⟨0, none, 0, by omega, rfl, rfl, .inl rfl, .inl ⟨rfl, rfl, rfl⟩, Nat.le_refl _, (fun x hx => by cases hx), World.grownBy.refl _ _⟩
  case round =>
    obtain ⟨k, oa, oc, hk, rfl, rfl, hs, hform, hcap, hbk, hg⟩ := hrel
    have HBK : Hid (∀ x, oa = some x → w.heap.size ≤ x.block) := hbk
    have HS : Hid (SRd wordE wr oa (tokU id k)) := hs
    have HG : Hid (w.grownBy wr none) := hg
    have HFM : Hid ((oa = none ∧ oc = 0 ∧ tokU id k = []) ∨ ∃ g, oa = some ⟨g, 0, none⟩) := hform
    clear hs hg hform hbk
    by_cases hlt : k < 4
    · have hki : (k : Int) < 4 := by omega
      have hkw : IntKind.u64.wrap (k : Int) = (k : Int) := by rw [IntKind.wrap_u64]; omega
      have HTU : Hid (tokU id (k + 1) = insW (tokH id k) (tokU id k)) := rfl
      have HTH : Hid (fnvB (([] ++ enc (IntKind.u64.wrap id).toNat) ++ enc ((k : Int)).toNat) = tokH id k) := by show _ = _; unfold tokH encAll; simp
      have hl4 := tokU_len id k
      have C1 := HP1.out wr
      have HLI : Hid (([] ++ enc (IntKind.u64.wrap id).toNat).length ≤ 10) := by
        show _ ≤ _
        rw [List.nil_append]
        exact enc_len _ (by have := wrap64_range id; omega)
      generalize tokH id k = h at HTU HTH
      generalize [] ++ enc (IntKind.u64.wrap id).toNat = Z1 at *
      go_wp2_with fail
      refine C1.mono ?_
      clear C1
      rintro e u1 ⟨g1, c1, N1, rfl, o1, gg1⟩
      have hZ1 := o1.len
      have C2 := rputuint (some ⟨g1, 0, none⟩) Z1 N1 c1 (k : Int) u1 o1.rd hZ1 (by simp) (by have := HLI.out; omega) (by omega)
      replace HS : Hid (SRd wordE u1 oa (tokU id k)) := HS.out.grown gg1 (by simp)
      replace HG : Hid (w.grownBy u1 none) := HG.out.trans gg1
      clear o1 gg1 hZ1
      go_wp2_with fail
      refine C2.mono ?_
      clear C2
      rintro e u2 ⟨g2, c2, N2, rfl, o2, gg2⟩
      have hZ2 := o2.len
      have C3 := r_fnv (some ⟨g2, 0, none⟩) _ N2 c2 u2 o2.rd hZ2 (by
        have := HLI.out
        have h9 := enc_len ((k : Int)).toNat (by omega)
        rw [List.length_append] at hZ2
        omega)
      rw [HTH.out] at C3
      replace HS : Hid (SRd wordE u2 oa (tokU id k)) := HS.out.grown gg2 (by simp)
      replace HG : Hid (w.grownBy u2 none) := HG.out.trans gg2
      clear o2 gg2 hZ2 HTH HLI
      generalize tokU id k = T0 at *
      obtain ⟨n, en⟩ : ∃ n, T0.length = n := ⟨_, rfl⟩
      have EN : Hid (T0.length = n) := en
      rw [en] at hcap hl4 ⊢
      clear en
      go_wp2_with fail
      refine C3.mono ?_
      clear C3
      rintro e u3 ⟨rfl, e3⟩
      subst e3
      go_wp2
      go_loopw [6] (fun t6 wx => ∃ (j : Nat), j ≤ n ∧ t6 = .int .i64 j ∧ (∀ (i : Nat) (y : Int), i < j → T0[i]? = some y → y < h) ∧ u2.grownBy wx none) (fun t6 _ => n - (intOf t6).toNat)
      case atStart => exact ⟨0, Nat.zero_le _, rfl, fun i y hi => by omega, World.grownBy.refl _ _⟩
      case round =>
        obtain ⟨j, hj, rfl, hall, hgx⟩ := hrel
        have HA : Hid (∀ (i : Nat) (y : Int), i < j → T0[i]? = some y → y < h) := hall
        have HGX : Hid (u2.grownBy wr none) := hgx
        clear hall hgx
        replace HS : Hid (SRd wordE wr oa T0) := HS.out.grown HGX.out (by simp)
        replace HG : Hid (w.grownBy wr none) := HG.out.trans HGX.out
        by_cases hjn : j < n
        · have hji : (j : Int) < (n : Int) := by omega
          have hen := EN.out
          obtain ⟨g, rfl⟩ : ∃ g, oa = some ⟨g, 0, none⟩ := by
            rcases HFM.out with ⟨_, _, e⟩ | h
            · rw [e] at hen; simp at hen; omega
            · exact h
          obtain ⟨y, ey⟩ : ∃ y, T0[j]? = some y := ⟨_, List.getElem?_eq_getElem (by omega)⟩
          have a0 : wr.cell? ⟨g, j, none⟩ = some (.int .u32 y) := by
            obtain ⟨ba, off, e2, hca⟩ := HS.out.at (by omega)
            cases e2
            have := hca j y 0 (.int .u32 y) ey rfl
            simpa [wordE] using this
          have EY : Hid (T0[j]? = some y) := ey
          clear ey hen
          by_cases hyh : y < h
          · have hd : decide (y < h) = true := by simp [hyh]
            have HY : Hid (y < h) := hyh
            clear hyh
            go_wp2
            go_roundw
            case rel =>
              refine ⟨j + 1, by omega, by go_num, fun i z hi hz => ?_, HGX.out⟩
              by_cases e : i < j
              · exact HA.out i z e hz
              · obtain rfl : i = j := by omega
                rw [EY.out] at hz
                cases hz
                exact HY.out
            case measure => simp [intOf]; omega
          · have hd : decide (y < h) = false := by simp; omega
            have hjn2 : ((j : Int) == (n : Int)) = false := by simp; omega
            have hjn3 : ¬ j = n := by omega
            by_cases hye : y = h
            · have hd2 : (y != h) = false := by simp [hye]
              have HSP : Hid (tokU id (k + 1) = T0) := HTU.out.trans (insW_has h T0 j HA.out (by rw [EY.out, hye]))
              clear hyh hye
              go_wp2
              go_roundw
              case rel => exact ⟨k + 1, _, oc, by omega, by go_num, by rw [HSP.out, EN.out], by rw [HSP.out]; exact HS.out, .inr ⟨g, rfl⟩, by rw [HSP.out, EN.out]; exact hcap, HBK.out, HG.out⟩
              case measure => simp [intOf]; omega
            · have hd2 : (y != h) = true := by simp [hye]
              have HSP : Hid (tokU id (k + 1) = T0.take j ++ [h] ++ T0.drop j) := HTU.out.trans (insW_at h T0 j (by have := EN.out; omega) HA.out (fun z hz => by rw [EY.out] at hz; cases hz; omega))
              clear hyh hye
              have hb0 : (0 : Int) ≤ (j : Int) := by omega
              have hb1 : (j : Int) ≤ (n : Int) := by omega
              have hb2 : (n : Int) ≤ (oc : Int) := by omega
              have hb3 : (j : Int) ≤ (oc : Int) := by omega
              have hen := EN.out
              have ed : (T0.drop j).length = n - j := by rw [List.length_drop]; omega
              have et : (T0.take j).length = j := by rw [List.length_take]; omega
              have HTk : Hid (SRd wordE wr (some ⟨g, 0, none⟩) (T0.take j)) := srd_takeW HS.out j
              have HD : Hid (SRd wordE wr (some ⟨g, j, none⟩) (T0.drop j)) := srd_dropW HS.out j
              have H10 : Hid (∀ v1 w1, SOwn wordE 43 w1 wr.heap.size v1 (0 + (n - j)) ([] ++ T0.drop j) → (wr.alloc (.cells #[] 43)).grownBy w1 (Value.slice (some ⟨wr.heap.size, 0, none⟩) 0 0).ownBlock → ∃ r1 cc1, v1 = .slice r1 (n - j) cc1 ∧ Hid (SRd wordE w1 r1 (T0.drop j) ∧ (r1 = none → cc1 = 0) ∧ wr.grownBy w1 none)) := by
                intro v1 w1 ho1 hg1
                rw [Nat.zero_add, List.nil_append] at ho1
                obtain ⟨r1, cc1, rfl⟩ := sown_slice ho1
                exact ⟨r1, cc1, rfl, SOwn.rd ho1, (sown_cap ho1).2, fresh_gb hg1⟩
              clear hen
              go_upto_region 11 with (at_builtin; refine wpList_append_s wordT rfl (.tmp 45) (.tmp 48) rfl wr.heap.size (.slice (some ⟨wr.heap.size, 0, none⟩) 0 0) 0 [] rfl (SOwn.empty wordE 43 wr) (some ⟨g, j, none⟩) (T0.drop j) (n - j) (oc - j) (by go_simp; try (split <;> simp_all)) ed (HD.out.grown (World.grownBy_alloc wr _ none) (by simp)) (by simp) (by omega) (by unfold maxLen; omega) (by rw [size_alloc]; omega) ?_; intro v1 w1 ho1 hg1 hn1; obtain ⟨r1, cc1, e1, HR1⟩ := H10.out v1 w1 ho1 hg1; subst e1; clear ho1 hg1 hn1)
              go_wp2_with (first | (at_builtin; refine wpList_append_s wordT rfl (.tmp 50) (.tmp 53) rfl w1.heap.size (.slice (some ⟨w1.heap.size, 0, none⟩) 0 0) 0 [] rfl (SOwn.empty wordE 43 w1) (some ⟨g, 0, none⟩) (T0.take j) j oc (by go_simp) et (HTk.out.grown (HR1.out.2.2.trans (World.grownBy_alloc w1 _ none)) (by simp)) (by simp) (by omega) (by unfold maxLen; omega) (by rw [size_alloc]; omega) ?_; intro v2 w2 ho2 hg2 hn2; replace ho2 : Hid _ := ho2; replace hg2 : Hid _ := hg2; clear hn2) | (at_builtin; refine wpList_append_at wordT rfl (.tmp 54) (.tmp 56) rfl w1.heap.size v2 (0 + j) _ rfl (SOwn.kept ho2.out (World.grownBy_alloc w2 _ none) (Classical.em _)) ⟨w2.heap.size, 0, none⟩ [h] 1 1 rfl rfl (srd_lit wordE 43 w2 [h]) (by omega) (by unfold maxLen; omega) (by rw [size_alloc]; have := (fresh_gb hg2.out).size; omega) ?_; intro v3 w3 ho3 hg3 hn3 hl3; have h13 : Hid (w1.grownBy w3 none) := app3_gb hg2.out ho2.out hg3; replace ho3 : Hid _ := ho3; clear hg3 hn3 hl3) | (at_builtin; refine wpList_append_s wordT rfl (.tmp 57) (.tmp 58) rfl w1.heap.size v3 (0 + j + 1) _ rfl ho3.out r1 (T0.drop j) (n - j) cc1 rfl ed (HR1.out.1.grown h13.out (by simp)) HR1.out.2.1 (by omega) (by unfold maxLen; omega) h13.out.size ?_; intro v4 w4 ho4 hg4 hn4; have h14 : Hid (w1.grownBy w4 none) := app4_gb h13.out ho3.out hg4; replace ho4 : Hid _ := ho4; clear hg4 hn4))
              go_roundw
              case rel =>
                obtain ⟨g4, c4, e4, h4⟩ := sown_some ho4.out (sown_ne ho4.out (by omega))
                subst e4
                have e5 : [] ++ T0.take j ++ [h] ++ T0.drop j = tokU id (k + 1) := by rw [HSP.out]; simp
                have e6 : (tokU id (k + 1)).length = 0 + j + 1 + (n - j) := by rw [← e5]; simp only [List.length_append, List.length_nil, List.length_cons, et, ed]
                rw [e5] at h4
                exact ⟨k + 1, _, c4, by omega, by go_num, by rw [e6], SOwn.rd h4, .inr ⟨g4, rfl⟩, by rw [e6]; exact (sown_cap h4).1, (fun x hx => by cases hx; have h8 := (SOwn.block h4 g4 rfl).1; have h7 := (HG.out.trans HR1.out.2.2).size; simp only; omega), (HG.out.trans HR1.out.2.2).trans h14.out⟩
              case measure => simp [intOf]; omega
        · have HJN : Hid (j = n) := by show _ = _; omega
          have HSP : Hid (tokU id (k + 1) = T0.take j ++ [h] ++ T0.drop j) := HTU.out.trans (insW_at h T0 j (by have := EN.out; omega) HA.out (fun z hz => by have := (List.getElem?_eq_some_iff.1 hz).1; have := EN.out; omega))
          rcases HFM.out with ⟨rfl, rfl, e0⟩ | ⟨g, rfl⟩
          · obtain rfl : n = 0 := by have := EN.out; rw [e0] at this; simpa using this.symm
            obtain rfl : j = 0 := by omega
            clear e0
            have hb0 : (0 : Int) ≤ ((0 : Nat) : Int) := by omega
            have hb1 : ((0 : Nat) : Int) ≤ ((0 : Nat) : Int) := by omega
            have hb2 : ((0 : Nat) : Int) ≤ (0 : Int) := by omega
            have hb3 : ((0 : Nat) : Int) ≤ (0 : Int) := by omega
            have hen := EN.out
            have ed : (T0.drop (0 : Nat)).length = (0 : Nat) - (0 : Nat) := by rw [List.length_drop]; omega
            have et : (T0.take (0 : Nat)).length = (0 : Nat) := by rw [List.length_take]; omega
            have HTk : Hid (SRd wordE wr none (T0.take (0 : Nat))) := srd_takeW HS.out (0 : Nat)
            have HD : Hid (SRd wordE wr none (T0.drop (0 : Nat))) := by left; exact List.drop_of_length_le (by omega)
            have H10 : Hid (∀ v1 w1, SOwn wordE 43 w1 wr.heap.size v1 (0 + ((0 : Nat) - (0 : Nat))) ([] ++ T0.drop (0 : Nat)) → (wr.alloc (.cells #[] 43)).grownBy w1 (Value.slice (some ⟨wr.heap.size, 0, none⟩) 0 0).ownBlock → ∃ r1 cc1, v1 = .slice r1 ((0 : Nat) - (0 : Nat)) cc1 ∧ Hid (SRd wordE w1 r1 (T0.drop (0 : Nat)) ∧ (r1 = none → cc1 = 0) ∧ wr.grownBy w1 none)) := by
              intro v1 w1 ho1 hg1
              rw [Nat.zero_add, List.nil_append] at ho1
              obtain ⟨r1, cc1, rfl⟩ := sown_slice ho1
              exact ⟨r1, cc1, rfl, SOwn.rd ho1, (sown_cap ho1).2, fresh_gb hg1⟩
            clear hen
            go_upto_region 11 with (at_builtin; refine wpList_append_s wordT rfl (.tmp 45) (.tmp 48) rfl wr.heap.size (.slice (some ⟨wr.heap.size, 0, none⟩) 0 0) 0 [] rfl (SOwn.empty wordE 43 wr) none (T0.drop (0 : Nat)) ((0 : Nat) - (0 : Nat)) 0 (by go_simp; try (split <;> simp_all)) ed (HD.out.grown (World.grownBy_alloc wr _ none) (by simp)) (fun _ => rfl) (by omega) (by unfold maxLen; omega) (by rw [size_alloc]; omega) ?_; intro v1 w1 ho1 hg1 hn1; obtain ⟨r1, cc1, e1, HR1⟩ := H10.out v1 w1 ho1 hg1; subst e1; clear ho1 hg1 hn1)
            go_wp2_with (first | (at_builtin; refine wpList_append_s wordT rfl (.tmp 50) (.tmp 53) rfl w1.heap.size (.slice (some ⟨w1.heap.size, 0, none⟩) 0 0) 0 [] rfl (SOwn.empty wordE 43 w1) none (T0.take (0 : Nat)) (0 : Nat) 0 (by go_simp) et (HTk.out.grown (HR1.out.2.2.trans (World.grownBy_alloc w1 _ none)) (by simp)) (fun _ => rfl) (by omega) (by unfold maxLen; omega) (by rw [size_alloc]; omega) ?_; intro v2 w2 ho2 hg2 hn2; replace ho2 : Hid _ := ho2; replace hg2 : Hid _ := hg2; clear hn2) | (at_builtin; refine wpList_append_at wordT rfl (.tmp 54) (.tmp 56) rfl w1.heap.size v2 (0 + (0 : Nat)) _ rfl (SOwn.kept ho2.out (World.grownBy_alloc w2 _ none) (Classical.em _)) ⟨w2.heap.size, 0, none⟩ [h] 1 1 rfl rfl (srd_lit wordE 43 w2 [h]) (by omega) (by unfold maxLen; omega) (by rw [size_alloc]; have := (fresh_gb hg2.out).size; omega) ?_; intro v3 w3 ho3 hg3 hn3 hl3; have h13 : Hid (w1.grownBy w3 none) := app3_gb hg2.out ho2.out hg3; replace ho3 : Hid _ := ho3; clear hg3 hn3 hl3) | (at_builtin; refine wpList_append_s wordT rfl (.tmp 57) (.tmp 58) rfl w1.heap.size v3 (0 + (0 : Nat) + 1) _ rfl ho3.out r1 (T0.drop (0 : Nat)) ((0 : Nat) - (0 : Nat)) cc1 rfl ed (HR1.out.1.grown h13.out (by simp)) HR1.out.2.1 (by omega) (by unfold maxLen; omega) h13.out.size ?_; intro v4 w4 ho4 hg4 hn4; have h14 : Hid (w1.grownBy w4 none) := app4_gb h13.out ho3.out hg4; replace ho4 : Hid _ := ho4; clear hg4 hn4))
            go_roundw
            case rel =>
              obtain ⟨g4, c4, e4, h4⟩ := sown_some ho4.out (sown_ne ho4.out (by omega))
              subst e4
              have e5 : [] ++ T0.take (0 : Nat) ++ [h] ++ T0.drop (0 : Nat) = tokU id (k + 1) := by rw [HSP.out]; simp
              have e6 : (tokU id (k + 1)).length = 0 + (0 : Nat) + 1 + ((0 : Nat) - (0 : Nat)) := by rw [← e5]; simp only [List.length_append, List.length_nil, List.length_cons, et, ed]
              rw [e5] at h4
              exact ⟨k + 1, _, c4, by omega, by go_num, by rw [e6], SOwn.rd h4, .inr ⟨g4, rfl⟩, by rw [e6]; exact (sown_cap h4).1, (fun x hx => by cases hx; have h8 := (SOwn.block h4 g4 rfl).1; have h7 := (HG.out.trans HR1.out.2.2).size; simp only; omega), (HG.out.trans HR1.out.2.2).trans h14.out⟩
            case measure => simp [intOf]; omega
          · have hq1 : decide ((j : Int) < (n : Int)) = false := by simp; omega
            have hq2 : ((j : Int) == (n : Int)) = true := by simp; have := HJN.out; omega
            have hb0 : (0 : Int) ≤ (j : Int) := by omega
            have hb1 : (j : Int) ≤ (n : Int) := by omega
            have hb2 : (n : Int) ≤ (oc : Int) := by omega
            have hb3 : (j : Int) ≤ (oc : Int) := by omega
            have hen := EN.out
            have ed : (T0.drop j).length = n - j := by rw [List.length_drop]; omega
            have et : (T0.take j).length = j := by rw [List.length_take]; omega
            have HTk : Hid (SRd wordE wr (some ⟨g, 0, none⟩) (T0.take j)) := srd_takeW HS.out j
            have HD : Hid (SRd wordE wr (some ⟨g, if oc = j then 0 else j, none⟩) (T0.drop j)) := by left; exact List.drop_of_length_le (by have := HJN.out; omega)
            have H10 : Hid (∀ v1 w1, SOwn wordE 43 w1 wr.heap.size v1 (0 + (n - j)) ([] ++ T0.drop j) → (wr.alloc (.cells #[] 43)).grownBy w1 (Value.slice (some ⟨wr.heap.size, 0, none⟩) 0 0).ownBlock → ∃ r1 cc1, v1 = .slice r1 (n - j) cc1 ∧ Hid (SRd wordE w1 r1 (T0.drop j) ∧ (r1 = none → cc1 = 0) ∧ wr.grownBy w1 none)) := by
              intro v1 w1 ho1 hg1
              rw [Nat.zero_add, List.nil_append] at ho1
              obtain ⟨r1, cc1, rfl⟩ := sown_slice ho1
              exact ⟨r1, cc1, rfl, SOwn.rd ho1, (sown_cap ho1).2, fresh_gb hg1⟩
            clear hen
            go_upto_region 11 with (at_builtin; refine wpList_append_s wordT rfl (.tmp 45) (.tmp 48) rfl wr.heap.size (.slice (some ⟨wr.heap.size, 0, none⟩) 0 0) 0 [] rfl (SOwn.empty wordE 43 wr) (some ⟨g, if oc = j then 0 else j, none⟩) (T0.drop j) (n - j) (oc - j) (by go_simp; try (split <;> simp_all)) ed (HD.out.grown (World.grownBy_alloc wr _ none) (by simp)) (by simp) (by omega) (by unfold maxLen; omega) (by rw [size_alloc]; omega) ?_; intro v1 w1 ho1 hg1 hn1; obtain ⟨r1, cc1, e1, HR1⟩ := H10.out v1 w1 ho1 hg1; subst e1; clear ho1 hg1 hn1)
            go_wp2_with (first | (at_builtin; refine wpList_append_s wordT rfl (.tmp 50) (.tmp 53) rfl w1.heap.size (.slice (some ⟨w1.heap.size, 0, none⟩) 0 0) 0 [] rfl (SOwn.empty wordE 43 w1) (some ⟨g, 0, none⟩) (T0.take j) j oc (by go_simp) et (HTk.out.grown (HR1.out.2.2.trans (World.grownBy_alloc w1 _ none)) (by simp)) (by simp) (by omega) (by unfold maxLen; omega) (by rw [size_alloc]; omega) ?_; intro v2 w2 ho2 hg2 hn2; replace ho2 : Hid _ := ho2; replace hg2 : Hid _ := hg2; clear hn2) | (at_builtin; refine wpList_append_at wordT rfl (.tmp 54) (.tmp 56) rfl w1.heap.size v2 (0 + j) _ rfl (SOwn.kept ho2.out (World.grownBy_alloc w2 _ none) (Classical.em _)) ⟨w2.heap.size, 0, none⟩ [h] 1 1 rfl rfl (srd_lit wordE 43 w2 [h]) (by omega) (by unfold maxLen; omega) (by rw [size_alloc]; have := (fresh_gb hg2.out).size; omega) ?_; intro v3 w3 ho3 hg3 hn3 hl3; have h13 : Hid (w1.grownBy w3 none) := app3_gb hg2.out ho2.out hg3; replace ho3 : Hid _ := ho3; clear hg3 hn3 hl3) | (at_builtin; refine wpList_append_s wordT rfl (.tmp 57) (.tmp 58) rfl w1.heap.size v3 (0 + j + 1) _ rfl ho3.out r1 (T0.drop j) (n - j) cc1 rfl ed (HR1.out.1.grown h13.out (by simp)) HR1.out.2.1 (by omega) (by unfold maxLen; omega) h13.out.size ?_; intro v4 w4 ho4 hg4 hn4; have h14 : Hid (w1.grownBy w4 none) := app4_gb h13.out ho3.out hg4; replace ho4 : Hid _ := ho4; clear hg4 hn4))
            go_roundw
            case rel =>
              obtain ⟨g4, c4, e4, h4⟩ := sown_some ho4.out (sown_ne ho4.out (by omega))
              subst e4
              have e5 : [] ++ T0.take j ++ [h] ++ T0.drop j = tokU id (k + 1) := by rw [HSP.out]; simp
              have e6 : (tokU id (k + 1)).length = 0 + j + 1 + (n - j) := by rw [← e5]; simp only [List.length_append, List.length_nil, List.length_cons, et, ed]
              rw [e5] at h4
              exact ⟨k + 1, _, c4, by omega, by go_num, by rw [e6], SOwn.rd h4, .inr ⟨g4, rfl⟩, by rw [e6]; exact (sown_cap h4).1, (fun x hx => by cases hx; have h8 := (SOwn.block h4 g4 rfl).1; have h7 := (HG.out.trans HR1.out.2.2).size; simp only; omega), (HG.out.trans HR1.out.2.2).trans h14.out⟩
            case measure => simp [intOf]; omega
    · obtain rfl : k = 4 := by omega
      go_wp2
      go_ret
      rw [HTL.out] at *
      exact ⟨oa, oc, rfl, HS.out, HBK.out, HG.out⟩
end Go.Proofs.YtaljjemickonaaaGreat

