/- The document's form: the walks, of kind 5. (Printed by mk_yd.py.) -/
import Derived.Test.YthbodkgcbfplgaaGreatYb
namespace Go.Proofs.YthbodkgcbfplgaaGreat
open Go.RowKit
set_option linter.unusedVariables false
set_option linter.unusedSimpArgs false
set_option maxRecDepth 20000

set_option maxHeartbeats 32000000 in
theorem rf_5 (op wi ba gr pa : Int) (tx : ByteArray) (ma na : Option Addr) (mn mc nn nc : Nat) (b1 nm g0 n0 m0 k0 w0 t0 bo g1 o0 nb sb sw a1 a2 h1 h2 g3 g4 c1 c2 : Bool) (w : World)
    (hb1 : (pa != 1) = b1) (HNM : Hid (∀ W, w.grownBy W none → Calls Tryz.prog 26 #[.slice na nn nc] W fun e w' => e = .returned (.bool nm) ∧ W = w'))
    (hg0 : (gr == 0) = g0) (hn0 : decide (0 < nn) = n0) (hm0 : decide (0 < mn) = m0) (hk0 : (ba != 0) = k0) (hw0 : (wi != 0) = w0) (ht0 : tx.toList.isEmpty = !t0) (hg1 : (gr != 0) = g1)
    (ha1 : decide (1 ≤ op) = a1) (ha2 : decide (op ≤ 5) = a2) (hh1 : decide (0 ≤ gr) = h1) (hh2 : decide (gr ≤ 2) = h2) :
    Calls Tryz.prog 15 #[.agg #[.int .i64 5, .int .i64 op, .string tx, .slice ma mn mc, .int .i64 wi, .int .i64 ba, .int .i64 gr, .slice na nn nc, .bool bo, .int .i64 pa]] w fun e w' => e = .returned (.bool (!b1 && (nm && (!(g0 && n0) && (!m0 && (!k0 && (!w0 && (!t0 && (!bo && (a1 && (a2 && (h1 && h2)))))))))))) ∧ w.grownBy w' none := by
  have G0 := hid (World.grownBy_alloc w (.cells #[.int .i64 5, .int .i64 op, .string tx, .slice ma mn mc, .int .i64 wi, .int .i64 ba, .int .i64 gr, .slice na nn nc, .bool bo, .int .i64 pa] 37) none)
  have HP : Hid (∀ w, Calls Tryz.prog 14 #[.int .i64 5] w fun e w' => e = .returned (.int .i64 1) ∧ w = w') := fun w => r_parts 5 w
  obtain ⟨c0, c1', c2', c3, c4, c5, c6, c7, c8, c9⟩ := nx_cells (heap_alloc_new w (.cells #[.int .i64 5, .int .i64 op, .string tx, .slice ma mn mc, .int .i64 wi, .int .i64 ba, .int .i64 gr, .slice na nn nc, .bool bo, .int .i64 pa] 37))
  cases b1 with
  | false =>
    cases nm with
    | false =>
      go_enter Tryz.func15, Tryz.ntmps15
      go_upto_region 2 with fail
      simp only [List.append_eq, List.cons_append, List.nil_append]
      go_quiet ((first | (go_at_call 14; exact Calls.quiet_of_same ((HP.out _).mono (fun _ _ h => ⟨h.1, h.2.symm⟩))) | (go_at_call 26; exact Calls.quiet_of_same ((HNM.out _ (gb_drewR G0.out _)).mono (fun _ _ h => ⟨h.1, h.2.symm⟩)))))
      go_wp2
      go_ret
      exact ⟨rfl, gb_drewR G0.out _⟩
    | true =>
      cases g0 with
      | false =>
        cases m0 with
        | false =>
          cases k0 with
          | false =>
            cases w0 with
            | false =>
              cases t0 with
              | false =>
                cases bo with
                | false =>
                  go_enter Tryz.func15, Tryz.ntmps15
                  go_upto_region 2 with fail
                  simp only [List.append_eq, List.cons_append, List.nil_append]
                  go_quiet ((first | (go_at_call 14; exact Calls.quiet_of_same ((HP.out _).mono (fun _ _ h => ⟨h.1, h.2.symm⟩))) | (go_at_call 26; exact Calls.quiet_of_same ((HNM.out _ (gb_drewR G0.out _)).mono (fun _ _ h => ⟨h.1, h.2.symm⟩)))))
                  cases a1 with
                  | false =>
                    go_wp2
                    go_ret
                    exact ⟨rfl, gb_drewR G0.out _⟩
                  | true =>
                    cases a2 with
                    | false =>
                      go_wp2
                      go_ret
                      exact ⟨rfl, gb_drewR G0.out _⟩
                    | true =>
                      cases h1 with
                      | false =>
                        go_wp2
                        go_ret
                        exact ⟨rfl, gb_drewR G0.out _⟩
                      | true =>
                        cases h2 with
                        | false =>
                          go_wp2
                          go_ret
                          exact ⟨rfl, gb_drewR G0.out _⟩
                        | true =>
                          go_wp2
                          go_ret
                          exact ⟨rfl, gb_drewR G0.out _⟩
                | true =>
                  go_enter Tryz.func15, Tryz.ntmps15
                  go_upto_region 2 with fail
                  simp only [List.append_eq, List.cons_append, List.nil_append]
                  go_quiet ((first | (go_at_call 14; exact Calls.quiet_of_same ((HP.out _).mono (fun _ _ h => ⟨h.1, h.2.symm⟩))) | (go_at_call 26; exact Calls.quiet_of_same ((HNM.out _ (gb_drewR G0.out _)).mono (fun _ _ h => ⟨h.1, h.2.symm⟩)))))
                  go_wp2
                  go_ret
                  exact ⟨rfl, gb_drewR G0.out _⟩
              | true =>
                go_enter Tryz.func15, Tryz.ntmps15
                go_upto_region 2 with fail
                simp only [List.append_eq, List.cons_append, List.nil_append]
                go_quiet ((first | (go_at_call 14; exact Calls.quiet_of_same ((HP.out _).mono (fun _ _ h => ⟨h.1, h.2.symm⟩))) | (go_at_call 26; exact Calls.quiet_of_same ((HNM.out _ (gb_drewR G0.out _)).mono (fun _ _ h => ⟨h.1, h.2.symm⟩)))))
                go_wp2
                go_ret
                exact ⟨rfl, gb_drewR G0.out _⟩
            | true =>
              go_enter Tryz.func15, Tryz.ntmps15
              go_upto_region 2 with fail
              simp only [List.append_eq, List.cons_append, List.nil_append]
              go_quiet ((first | (go_at_call 14; exact Calls.quiet_of_same ((HP.out _).mono (fun _ _ h => ⟨h.1, h.2.symm⟩))) | (go_at_call 26; exact Calls.quiet_of_same ((HNM.out _ (gb_drewR G0.out _)).mono (fun _ _ h => ⟨h.1, h.2.symm⟩)))))
              go_wp2
              go_ret
              exact ⟨rfl, gb_drewR G0.out _⟩
          | true =>
            go_enter Tryz.func15, Tryz.ntmps15
            go_upto_region 2 with fail
            simp only [List.append_eq, List.cons_append, List.nil_append]
            go_quiet ((first | (go_at_call 14; exact Calls.quiet_of_same ((HP.out _).mono (fun _ _ h => ⟨h.1, h.2.symm⟩))) | (go_at_call 26; exact Calls.quiet_of_same ((HNM.out _ (gb_drewR G0.out _)).mono (fun _ _ h => ⟨h.1, h.2.symm⟩)))))
            go_wp2
            go_ret
            exact ⟨rfl, gb_drewR G0.out _⟩
        | true =>
          go_enter Tryz.func15, Tryz.ntmps15
          go_upto_region 2 with fail
          simp only [List.append_eq, List.cons_append, List.nil_append]
          go_quiet ((first | (go_at_call 14; exact Calls.quiet_of_same ((HP.out _).mono (fun _ _ h => ⟨h.1, h.2.symm⟩))) | (go_at_call 26; exact Calls.quiet_of_same ((HNM.out _ (gb_drewR G0.out _)).mono (fun _ _ h => ⟨h.1, h.2.symm⟩)))))
          go_wp2
          go_ret
          exact ⟨rfl, gb_drewR G0.out _⟩
      | true =>
        cases n0 with
        | false =>
          cases m0 with
          | false =>
            cases k0 with
            | false =>
              cases w0 with
              | false =>
                cases t0 with
                | false =>
                  cases bo with
                  | false =>
                    go_enter Tryz.func15, Tryz.ntmps15
                    go_upto_region 2 with fail
                    simp only [List.append_eq, List.cons_append, List.nil_append]
                    go_quiet ((first | (go_at_call 14; exact Calls.quiet_of_same ((HP.out _).mono (fun _ _ h => ⟨h.1, h.2.symm⟩))) | (go_at_call 26; exact Calls.quiet_of_same ((HNM.out _ (gb_drewR G0.out _)).mono (fun _ _ h => ⟨h.1, h.2.symm⟩)))))
                    cases a1 with
                    | false =>
                      go_wp2
                      go_ret
                      exact ⟨rfl, gb_drewR G0.out _⟩
                    | true =>
                      cases a2 with
                      | false =>
                        go_wp2
                        go_ret
                        exact ⟨rfl, gb_drewR G0.out _⟩
                      | true =>
                        cases h1 with
                        | false =>
                          go_wp2
                          go_ret
                          exact ⟨rfl, gb_drewR G0.out _⟩
                        | true =>
                          cases h2 with
                          | false =>
                            go_wp2
                            go_ret
                            exact ⟨rfl, gb_drewR G0.out _⟩
                          | true =>
                            go_wp2
                            go_ret
                            exact ⟨rfl, gb_drewR G0.out _⟩
                  | true =>
                    go_enter Tryz.func15, Tryz.ntmps15
                    go_upto_region 2 with fail
                    simp only [List.append_eq, List.cons_append, List.nil_append]
                    go_quiet ((first | (go_at_call 14; exact Calls.quiet_of_same ((HP.out _).mono (fun _ _ h => ⟨h.1, h.2.symm⟩))) | (go_at_call 26; exact Calls.quiet_of_same ((HNM.out _ (gb_drewR G0.out _)).mono (fun _ _ h => ⟨h.1, h.2.symm⟩)))))
                    go_wp2
                    go_ret
                    exact ⟨rfl, gb_drewR G0.out _⟩
                | true =>
                  go_enter Tryz.func15, Tryz.ntmps15
                  go_upto_region 2 with fail
                  simp only [List.append_eq, List.cons_append, List.nil_append]
                  go_quiet ((first | (go_at_call 14; exact Calls.quiet_of_same ((HP.out _).mono (fun _ _ h => ⟨h.1, h.2.symm⟩))) | (go_at_call 26; exact Calls.quiet_of_same ((HNM.out _ (gb_drewR G0.out _)).mono (fun _ _ h => ⟨h.1, h.2.symm⟩)))))
                  go_wp2
                  go_ret
                  exact ⟨rfl, gb_drewR G0.out _⟩
              | true =>
                go_enter Tryz.func15, Tryz.ntmps15
                go_upto_region 2 with fail
                simp only [List.append_eq, List.cons_append, List.nil_append]
                go_quiet ((first | (go_at_call 14; exact Calls.quiet_of_same ((HP.out _).mono (fun _ _ h => ⟨h.1, h.2.symm⟩))) | (go_at_call 26; exact Calls.quiet_of_same ((HNM.out _ (gb_drewR G0.out _)).mono (fun _ _ h => ⟨h.1, h.2.symm⟩)))))
                go_wp2
                go_ret
                exact ⟨rfl, gb_drewR G0.out _⟩
            | true =>
              go_enter Tryz.func15, Tryz.ntmps15
              go_upto_region 2 with fail
              simp only [List.append_eq, List.cons_append, List.nil_append]
              go_quiet ((first | (go_at_call 14; exact Calls.quiet_of_same ((HP.out _).mono (fun _ _ h => ⟨h.1, h.2.symm⟩))) | (go_at_call 26; exact Calls.quiet_of_same ((HNM.out _ (gb_drewR G0.out _)).mono (fun _ _ h => ⟨h.1, h.2.symm⟩)))))
              go_wp2
              go_ret
              exact ⟨rfl, gb_drewR G0.out _⟩
          | true =>
            go_enter Tryz.func15, Tryz.ntmps15
            go_upto_region 2 with fail
            simp only [List.append_eq, List.cons_append, List.nil_append]
            go_quiet ((first | (go_at_call 14; exact Calls.quiet_of_same ((HP.out _).mono (fun _ _ h => ⟨h.1, h.2.symm⟩))) | (go_at_call 26; exact Calls.quiet_of_same ((HNM.out _ (gb_drewR G0.out _)).mono (fun _ _ h => ⟨h.1, h.2.symm⟩)))))
            go_wp2
            go_ret
            exact ⟨rfl, gb_drewR G0.out _⟩
        | true =>
          go_enter Tryz.func15, Tryz.ntmps15
          go_upto_region 2 with fail
          simp only [List.append_eq, List.cons_append, List.nil_append]
          go_quiet ((first | (go_at_call 14; exact Calls.quiet_of_same ((HP.out _).mono (fun _ _ h => ⟨h.1, h.2.symm⟩))) | (go_at_call 26; exact Calls.quiet_of_same ((HNM.out _ (gb_drewR G0.out _)).mono (fun _ _ h => ⟨h.1, h.2.symm⟩)))))
          go_wp2
          go_ret
          exact ⟨rfl, gb_drewR G0.out _⟩
  | true =>
    go_enter Tryz.func15, Tryz.ntmps15
    go_upto_region 2 with fail
    simp only [List.append_eq, List.cons_append, List.nil_append]
    go_quiet ((first | (go_at_call 14; exact Calls.quiet_of_same ((HP.out _).mono (fun _ _ h => ⟨h.1, h.2.symm⟩))) | (go_at_call 26; exact Calls.quiet_of_same ((HNM.out _ (gb_drewR G0.out _)).mono (fun _ _ h => ⟨h.1, h.2.symm⟩)))))
    go_wp2
    go_ret
    exact ⟨rfl, gb_drewR G0.out _⟩
end Go.Proofs.YthbodkgcbfplgaaGreat
