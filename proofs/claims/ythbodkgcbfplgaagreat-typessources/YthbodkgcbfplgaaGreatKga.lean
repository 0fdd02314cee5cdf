/- Package types: has a node a form? -/
import Derived.Test.YthbodkgcbfplgaaGreatKf
namespace Go.Proofs.YthbodkgcbfplgaaGreat
open Go.RowKit
set_option linter.unusedVariables false
set_option linter.unusedSimpArgs false
set_option maxRecDepth 20000

theorem nx_cells {w : World} {g : Nat} {kd op wi ba gr pa : Int} {tx : ByteArray} {ms ns : Value} {bo : Bool} (h : w.heap[g]? = some (.cells #[.int .i64 kd, .int .i64 op, .string tx, ms, .int .i64 wi, .int .i64 ba, .int .i64 gr, ns, .bool bo, .int .i64 pa] 37 (0, 0))) :
    w.cell? ⟨g, 0, none⟩ = some (.int .i64 kd) ∧ w.cell? ⟨g, 1, none⟩ = some (.int .i64 op) ∧ w.cell? ⟨g, 2, none⟩ = some (.string tx) ∧ w.cell? ⟨g, 3, none⟩ = some ms ∧ w.cell? ⟨g, 4, none⟩ = some (.int .i64 wi) ∧ w.cell? ⟨g, 5, none⟩ = some (.int .i64 ba) ∧ w.cell? ⟨g, 6, none⟩ = some (.int .i64 gr) ∧ w.cell? ⟨g, 7, none⟩ = some ns ∧ w.cell? ⟨g, 8, none⟩ = some (.bool bo) ∧ w.cell? ⟨g, 9, none⟩ = some (.int .i64 pa) := by
  refine ⟨?_, ?_, ?_, ?_, ?_, ?_, ?_, ?_, ?_, ?_⟩ <;> (rw [cell_of_row _ _ _ _ _ _ h]; rfl)
theorem fx_cells {w : World} {g : Nat} {fn fa fc : Bool} {o1 o2 w1 w2 b1 b2 g1 g2 fp : Int} (h : w.heap[g]? = some (.cells #[.bool fn, .bool fa, .bool fc, .int .i64 o1, .int .i64 o2, .int .i64 w1, .int .i64 w2, .int .i64 b1, .int .i64 b2, .int .i64 g1, .int .i64 g2, .int .i64 fp] 83 (0, 0))) :
    w.cell? ⟨g, 0, none⟩ = some (.bool fn) ∧ w.cell? ⟨g, 1, none⟩ = some (.bool fa) ∧ w.cell? ⟨g, 2, none⟩ = some (.bool fc) ∧ w.cell? ⟨g, 3, none⟩ = some (.int .i64 o1) ∧ w.cell? ⟨g, 4, none⟩ = some (.int .i64 o2) ∧ w.cell? ⟨g, 5, none⟩ = some (.int .i64 w1) ∧ w.cell? ⟨g, 6, none⟩ = some (.int .i64 w2) ∧ w.cell? ⟨g, 7, none⟩ = some (.int .i64 b1) ∧ w.cell? ⟨g, 8, none⟩ = some (.int .i64 b2) ∧ w.cell? ⟨g, 9, none⟩ = some (.int .i64 g1) ∧ w.cell? ⟨g, 10, none⟩ = some (.int .i64 g2) ∧ w.cell? ⟨g, 11, none⟩ = some (.int .i64 fp) := by
  refine ⟨?_, ?_, ?_, ?_, ?_, ?_, ?_, ?_, ?_, ?_, ?_, ?_⟩ <;> (rw [cell_of_row _ _ _ _ _ _ h]; rfl)
set_option maxHeartbeats 8000000 in
theorem hf_walk (kd op wi ba gr pa o1 o2 w1 w2 b1 b2 g1 g2 fp : Int) (tx : ByteArray) (ma na : Option Addr) (mn mc nn nc : Nat) (bo fn fa fc o t wb bb gb cm pb m0 : Bool) (w : World)
    (HFR : Hid (∀ W, Calls Tryz.prog 48 #[.int .i64 kd] W fun e w' => e = .returned (.tuple #[.agg #[.bool fn, .bool fa, .bool fc, .int .i64 o1, .int .i64 o2, .int .i64 w1, .int .i64 w2, .int .i64 b1, .int .i64 b2, .int .i64 g1, .int .i64 g2, .int .i64 fp], .bool true]) ∧ W.grownBy w' none))
    (HOP : Hid (∀ W, Calls Tryz.prog 49 #[.agg #[.int .i64 o1, .int .i64 o2], .int .i64 op] W fun e w' => e = .returned (.bool o) ∧ W.grownBy w' none))
    (HTX : Hid (∀ W, Calls Tryz.prog 50 #[.agg #[.bool fn, .bool fa, .bool fc, .int .i64 o1, .int .i64 o2, .int .i64 w1, .int .i64 w2, .int .i64 b1, .int .i64 b2, .int .i64 g1, .int .i64 g2, .int .i64 fp], .string tx] W fun e w' => e = .returned (.bool t) ∧ W.grownBy w' none))
    (HWI : Hid (∀ W, Calls Tryz.prog 49 #[.agg #[.int .i64 w1, .int .i64 w2], .int .i64 wi] W fun e w' => e = .returned (.bool wb) ∧ W.grownBy w' none))
    (HBA : Hid (∀ W, Calls Tryz.prog 49 #[.agg #[.int .i64 b1, .int .i64 b2], .int .i64 ba] W fun e w' => e = .returned (.bool bb) ∧ W.grownBy w' none))
    (HGR : Hid (∀ W, w.grownBy W none → Calls Tryz.prog 51 #[.agg #[.bool fn, .bool fa, .bool fc, .int .i64 o1, .int .i64 o2, .int .i64 w1, .int .i64 w2, .int .i64 b1, .int .i64 b2, .int .i64 g1, .int .i64 g2, .int .i64 fp], .int .i64 gr, .slice na nn nc] W fun e w' => e = .returned (.bool gb) ∧ W.grownBy w' none))
    (HCM : Hid (∀ W, Calls Tryz.prog 52 #[.int .i64 op] W fun e w' => e = .returned (.bool cm) ∧ w' = W))
    (hpb : (pa == fp) = pb) (hm0 : ((mn : Int) == 0) = m0) :
    Calls Tryz.prog 30 #[.agg #[.int .i64 kd, .int .i64 op, .string tx, .slice ma mn mc, .int .i64 wi, .int .i64 ba, .int .i64 gr, .slice na nn nc, .bool bo, .int .i64 pa]] w fun e w' => e = .returned (.bool (o && (t && ((fa || m0) && (wb && (bb && (gb && ((!bo || (fc && cm)) && pb)))))))) ∧ w.grownBy w' none := by
  have G0 := hid (World.grownBy_alloc w (.cells #[.int .i64 kd, .int .i64 op, .string tx, .slice ma mn mc, .int .i64 wi, .int .i64 ba, .int .i64 gr, .slice na nn nc, .bool bo, .int .i64 pa] 37) none)
  have HB := hid (heap_alloc_new w (.cells #[.int .i64 kd, .int .i64 op, .string tx, .slice ma mn mc, .int .i64 wi, .int .i64 ba, .int .i64 gr, .slice na nn nc, .bool bo, .int .i64 pa] 37))
  have HZ : Hid (w.heap.size < (w.alloc (.cells #[.int .i64 kd, .int .i64 op, .string tx, .slice ma mn mc, .int .i64 wi, .int .i64 ba, .int .i64 gr, .slice na nn nc, .bool bo, .int .i64 pa] 37)).heap.size) := by show _ < _; rw [size_alloc]; omega
  go_enter Tryz.func30, Tryz.ntmps30
  go_wp2_with fail
  refine (HFR.out _).mono ?_
  rintro e wz1 ⟨rfl, gg⟩
  have GF := World.grownBy_alloc wz1 (.cells #[.bool fn, .bool fa, .bool fc, .int .i64 o1, .int .i64 o2, .int .i64 w1, .int .i64 w2, .int .i64 b1, .int .i64 b2, .int .i64 g1, .int .i64 g2, .int .i64 fp] 83) none
  have HG := hid (G0.out.trans (gg.trans GF))
  have RN := hid (((gg.trans GF).block _ HZ.out (by simp)).trans HB.out)
  have RF := hid (heap_alloc_new wz1 (.cells #[.bool fn, .bool fa, .bool fc, .int .i64 o1, .int .i64 o2, .int .i64 w1, .int .i64 w2, .int .i64 b1, .int .i64 b2, .int .i64 g1, .int .i64 g2, .int .i64 fp] 83))
  have RN0 := hid ((gg.block _ HZ.out (by simp)).trans HB.out)
  obtain ⟨c0, c1, c2, c3, c4, c5, c6, c7, c8, c9⟩ := nx_cells RN.out
  clear gg GF
  go_upto_region 2 with fail
  simp only [List.append_eq, List.cons_append, List.nil_append]
  go_wp2_with fail
  refine (HOP.out _).mono ?_
  rintro e wz2 ⟨rfl, gg⟩
  replace RN := hid ((gg.block _ (Array.getElem?_eq_some_iff.1 RN.out).1 (by simp)).trans RN.out)
  replace RF := hid ((gg.block _ (Array.getElem?_eq_some_iff.1 RF.out).1 (by simp)).trans RF.out)
  replace HG := hid (HG.out.trans gg)
  clear gg c0 c1 c2 c3 c4 c5 c6 c7 c8 c9
  obtain ⟨c0, c1, c2, c3, c4, c5, c6, c7, c8, c9⟩ := nx_cells RN.out
  obtain ⟨d0, d1, d2, d3, d4, d5, d6, d7, d8, d9, d10, d11⟩ := fx_cells RF.out
  cases o with
  | false =>
    go_wp2
    go_ret
    exact ⟨rfl, HG.out⟩
  | true =>
    go_wp2_with fail
    refine (HTX.out _).mono ?_
    rintro e wz3 ⟨rfl, gg⟩
    replace RN := hid ((gg.block _ (Array.getElem?_eq_some_iff.1 RN.out).1 (by simp)).trans RN.out)
    replace RF := hid ((gg.block _ (Array.getElem?_eq_some_iff.1 RF.out).1 (by simp)).trans RF.out)
    replace HG := hid (HG.out.trans gg)
    clear gg c0 c1 c2 c3 c4 c5 c6 c7 c8 c9 d0 d1 d2 d3 d4 d5 d6 d7 d8 d9 d10 d11
    obtain ⟨c0, c1, c2, c3, c4, c5, c6, c7, c8, c9⟩ := nx_cells RN.out
    obtain ⟨d0, d1, d2, d3, d4, d5, d6, d7, d8, d9, d10, d11⟩ := fx_cells RF.out
    cases t with
    | false =>
      go_wp2
      go_ret
      exact ⟨rfl, HG.out⟩
    | true =>
      cases fa with
      | false =>
        cases m0 with
        | false =>
          go_wp2
          go_ret
          exact ⟨rfl, HG.out⟩
        | true =>
          go_wp2_with fail
          refine (HWI.out _).mono ?_
          rintro e wz7 ⟨rfl, gg⟩
          replace RN := hid ((gg.block _ (Array.getElem?_eq_some_iff.1 RN.out).1 (by simp)).trans RN.out)
          replace RF := hid ((gg.block _ (Array.getElem?_eq_some_iff.1 RF.out).1 (by simp)).trans RF.out)
          replace HG := hid (HG.out.trans gg)
          clear gg c0 c1 c2 c3 c4 c5 c6 c7 c8 c9 d0 d1 d2 d3 d4 d5 d6 d7 d8 d9 d10 d11
          obtain ⟨c0, c1, c2, c3, c4, c5, c6, c7, c8, c9⟩ := nx_cells RN.out
          obtain ⟨d0, d1, d2, d3, d4, d5, d6, d7, d8, d9, d10, d11⟩ := fx_cells RF.out
          cases wb with
          | false =>
            go_wp2
            go_ret
            exact ⟨rfl, HG.out⟩
          | true =>
            go_wp2_with fail
            refine (HBA.out _).mono ?_
            rintro e wz8 ⟨rfl, gg⟩
            replace RN := hid ((gg.block _ (Array.getElem?_eq_some_iff.1 RN.out).1 (by simp)).trans RN.out)
            replace RF := hid ((gg.block _ (Array.getElem?_eq_some_iff.1 RF.out).1 (by simp)).trans RF.out)
            replace HG := hid (HG.out.trans gg)
            clear gg c0 c1 c2 c3 c4 c5 c6 c7 c8 c9 d0 d1 d2 d3 d4 d5 d6 d7 d8 d9 d10 d11
            obtain ⟨c0, c1, c2, c3, c4, c5, c6, c7, c8, c9⟩ := nx_cells RN.out
            obtain ⟨d0, d1, d2, d3, d4, d5, d6, d7, d8, d9, d10, d11⟩ := fx_cells RF.out
            cases bb with
            | false =>
              go_wp2
              go_ret
              exact ⟨rfl, HG.out⟩
            | true =>
              go_wp2_with fail
              refine (HGR.out _ HG.out).mono ?_
              rintro e wz9 ⟨rfl, gg⟩
              replace RN := hid ((gg.block _ (Array.getElem?_eq_some_iff.1 RN.out).1 (by simp)).trans RN.out)
              replace RF := hid ((gg.block _ (Array.getElem?_eq_some_iff.1 RF.out).1 (by simp)).trans RF.out)
              replace HG := hid (HG.out.trans gg)
              clear gg c0 c1 c2 c3 c4 c5 c6 c7 c8 c9 d0 d1 d2 d3 d4 d5 d6 d7 d8 d9 d10 d11
              obtain ⟨c0, c1, c2, c3, c4, c5, c6, c7, c8, c9⟩ := nx_cells RN.out
              obtain ⟨d0, d1, d2, d3, d4, d5, d6, d7, d8, d9, d10, d11⟩ := fx_cells RF.out
              cases gb with
              | false =>
                go_wp2
                go_ret
                exact ⟨rfl, HG.out⟩
              | true =>
                cases bo with
                | false =>
                  go_wp2
                  go_ret
                  exact ⟨rfl, HG.out⟩
                | true =>
                  cases fc with
                  | false =>
                    go_wp2
                    go_ret
                    exact ⟨rfl, HG.out⟩
                  | true =>
                    go_wp2_with fail
                    refine (HCM.out _).mono ?_
                    rintro e wz ⟨rfl, rfl⟩
                    cases cm with
                    | false =>
                      go_wp2
                      go_ret
                      exact ⟨rfl, HG.out⟩
                    | true =>
                      go_wp2
                      go_ret
                      exact ⟨rfl, HG.out⟩
      | true =>
        go_wp2_with fail
        refine (HWI.out _).mono ?_
        rintro e wz4 ⟨rfl, gg⟩
        replace RN := hid ((gg.block _ (Array.getElem?_eq_some_iff.1 RN.out).1 (by simp)).trans RN.out)
        replace RF := hid ((gg.block _ (Array.getElem?_eq_some_iff.1 RF.out).1 (by simp)).trans RF.out)
        replace HG := hid (HG.out.trans gg)
        clear gg c0 c1 c2 c3 c4 c5 c6 c7 c8 c9 d0 d1 d2 d3 d4 d5 d6 d7 d8 d9 d10 d11
        obtain ⟨c0, c1, c2, c3, c4, c5, c6, c7, c8, c9⟩ := nx_cells RN.out
        obtain ⟨d0, d1, d2, d3, d4, d5, d6, d7, d8, d9, d10, d11⟩ := fx_cells RF.out
        cases wb with
        | false =>
          go_wp2
          go_ret
          exact ⟨rfl, HG.out⟩
        | true =>
          go_wp2_with fail
          refine (HBA.out _).mono ?_
          rintro e wz5 ⟨rfl, gg⟩
          replace RN := hid ((gg.block _ (Array.getElem?_eq_some_iff.1 RN.out).1 (by simp)).trans RN.out)
          replace RF := hid ((gg.block _ (Array.getElem?_eq_some_iff.1 RF.out).1 (by simp)).trans RF.out)
          replace HG := hid (HG.out.trans gg)
          clear gg c0 c1 c2 c3 c4 c5 c6 c7 c8 c9 d0 d1 d2 d3 d4 d5 d6 d7 d8 d9 d10 d11
          obtain ⟨c0, c1, c2, c3, c4, c5, c6, c7, c8, c9⟩ := nx_cells RN.out
          obtain ⟨d0, d1, d2, d3, d4, d5, d6, d7, d8, d9, d10, d11⟩ := fx_cells RF.out
          cases bb with
          | false =>
            go_wp2
            go_ret
            exact ⟨rfl, HG.out⟩
          | true =>
            go_wp2_with fail
            refine (HGR.out _ HG.out).mono ?_
            rintro e wz6 ⟨rfl, gg⟩
            replace RN := hid ((gg.block _ (Array.getElem?_eq_some_iff.1 RN.out).1 (by simp)).trans RN.out)
            replace RF := hid ((gg.block _ (Array.getElem?_eq_some_iff.1 RF.out).1 (by simp)).trans RF.out)
            replace HG := hid (HG.out.trans gg)
            clear gg c0 c1 c2 c3 c4 c5 c6 c7 c8 c9 d0 d1 d2 d3 d4 d5 d6 d7 d8 d9 d10 d11
            obtain ⟨c0, c1, c2, c3, c4, c5, c6, c7, c8, c9⟩ := nx_cells RN.out
            obtain ⟨d0, d1, d2, d3, d4, d5, d6, d7, d8, d9, d10, d11⟩ := fx_cells RF.out
            cases gb with
            | false =>
              go_wp2
              go_ret
              exact ⟨rfl, HG.out⟩
            | true =>
              cases bo with
              | false =>
                go_wp2
                go_ret
                exact ⟨rfl, HG.out⟩
              | true =>
                cases fc with
                | false =>
                  go_wp2
                  go_ret
                  exact ⟨rfl, HG.out⟩
                | true =>
                  go_wp2_with fail
                  refine (HCM.out _).mono ?_
                  rintro e wz ⟨rfl, rfl⟩
                  cases cm with
                  | false =>
                    go_wp2
                    go_ret
                    exact ⟨rfl, HG.out⟩
                  | true =>
                    go_wp2
                    go_ret
                    exact ⟨rfl, HG.out⟩
end Go.Proofs.YthbodkgcbfplgaaGreat
