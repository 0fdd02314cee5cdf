/- The document's form: the walks, of kind 6. (Printed by mk_yd.py.) -/
import Derived.Test.YthbodkgcbfplgaaGreatYb
namespace Go.Proofs.YthbodkgcbfplgaaGreat
open Go.RowKit
set_option linter.unusedVariables false
set_option linter.unusedSimpArgs false
set_option maxRecDepth 20000

set_option maxHeartbeats 32000000 in
theorem rf_6 (op wi ba gr pa : Int) (tx : ByteArray) (ma na : Option Addr) (mn mc nn nc : Nat) (b1 nm g0 n0 m0 k0 w0 t0 bo g1 o0 nb sb sw a1 a2 h1 h2 g3 g4 c1 c2 : Bool) (w : World)
    (hb1 : (pa != 2) = b1) (HNM : Hid (∀ W, w.grownBy W none → Calls Tryz.prog 26 #[.slice na nn nc] W fun e w' => e = .returned (.bool nm) ∧ W = w'))
    (hg0 : (gr == 0) = g0) (hn0 : decide (0 < nn) = n0) (hm0 : decide (0 < mn) = m0) (hk0 : (ba != 0) = k0) (hw0 : (wi != 0) = w0) (ht0 : tx.toList.isEmpty = !t0) (hg1 : (gr != 0) = g1)
    (ha1 : decide (1 ≤ op) = a1) (ha2 : decide (op ≤ 13) = a2) (hc1 : decide (5 ≤ op) = c1) (hc2 : decide (op ≤ 10) = c2) (hg3 : (gr == 3) = g3) (hg4 : (gr == 4) = g4) :
    Calls Tryz.prog 15 #[.agg #[.int .i64 6, .int .i64 op, .string tx, .slice ma mn mc, .int .i64 wi, .int .i64 ba, .int .i64 gr, .slice na nn nc, .bool bo, .int .i64 pa]] w fun e w' => e = .returned (.bool (!b1 && (nm && (!(g0 && n0) && (!m0 && (!k0 && (!w0 && (!t0 && (a1 && (a2 && ((g0 || (g3 || g4)) && ((c1 && c2) || !bo)))))))))))) ∧ w.grownBy w' none := by
  have G0 := hid (World.grownBy_alloc w (.cells #[.int .i64 6, .int .i64 op, .string tx, .slice ma mn mc, .int .i64 wi, .int .i64 ba, .int .i64 gr, .slice na nn nc, .bool bo, .int .i64 pa] 37) none)
  have HP : Hid (∀ w, Calls Tryz.prog 14 #[.int .i64 6] w fun e w' => e = .returned (.int .i64 2) ∧ w = w') := fun w => r_parts 6 w
  obtain ⟨c0, c1', c2', c3, c4, c5, c6, c7, c8, c9⟩ := nx_cells (heap_alloc_new w (.cells #[.int .i64 6, .int .i64 op, .string tx, .slice ma mn mc, .int .i64 wi, .int .i64 ba, .int .i64 gr, .slice na nn nc, .bool bo, .int .i64 pa] 37))
  cases b1 with
  | false =>
    cases nm with
    | false =>
      go_enter Tryz.func15, Tryz.ntmps15
      go_upto_region 2 with fail
      simp only [List.append_eq, List.cons_append, List.nil_append]
      go_quiet ((first | (go_at_call 14; exact Calls.quiet_of_same ((HP.out _).mono (fun _ _ h => ⟨h.1, h.2.symm⟩))) | (go_at_call 26; exact Calls.quiet_of_same ((HNM.out _ (gb_drewR G0.out _)).mono (fun _ _ h => ⟨h.1, h.2.symm⟩)))))
      go_wp2
      go_ret
      exact ⟨rfl, gb_drewR G0.out _⟩
    | true =>
      cases g0 with
      | false =>
        cases m0 with
        | false =>
          cases k0 with
          | false =>
            cases w0 with
            | false =>
              cases t0 with
              | false =>
                go_enter Tryz.func15, Tryz.ntmps15
                go_upto_region 2 with fail
                simp only [List.append_eq, List.cons_append, List.nil_append]
                go_quiet ((first | (go_at_call 14; exact Calls.quiet_of_same ((HP.out _).mono (fun _ _ h => ⟨h.1, h.2.symm⟩))) | (go_at_call 26; exact Calls.quiet_of_same ((HNM.out _ (gb_drewR G0.out _)).mono (fun _ _ h => ⟨h.1, h.2.symm⟩)))))
                cases a1 with
                | false =>
                  cases c1 with
                  | false =>
                    go_wp2
                    go_ret
                    exact ⟨rfl, gb_drewR G0.out _⟩
                  | true =>
                    cases c2 with
                    | false =>
                      go_wp2
                      go_ret
                      exact ⟨rfl, gb_drewR G0.out _⟩
                    | true =>
                      go_wp2
                      go_ret
                      exact ⟨rfl, gb_drewR G0.out _⟩
                | true =>
                  cases a2 with
                  | false =>
                    cases c1 with
                    | false =>
                      go_wp2
                      go_ret
                      exact ⟨rfl, gb_drewR G0.out _⟩
                    | true =>
                      cases c2 with
                      | false =>
                        go_wp2
                        go_ret
                        exact ⟨rfl, gb_drewR G0.out _⟩
                      | true =>
                        go_wp2
                        go_ret
                        exact ⟨rfl, gb_drewR G0.out _⟩
                  | true =>
                    cases g3 with
                    | false =>
                      cases g4 with
                      | false =>
                        cases c1 with
                        | false =>
                          go_wp2
                          go_ret
                          exact ⟨rfl, gb_drewR G0.out _⟩
                        | true =>
                          cases c2 with
                          | false =>
                            go_wp2
                            go_ret
                            exact ⟨rfl, gb_drewR G0.out _⟩
                          | true =>
                            go_wp2
                            go_ret
                            exact ⟨rfl, gb_drewR G0.out _⟩
                      | true =>
                        cases bo with
                        | false =>
                          cases c1 with
                          | false =>
                            go_wp2
                            go_ret
                            exact ⟨rfl, gb_drewR G0.out _⟩
                          | true =>
                            cases c2 with
                            | false =>
                              go_wp2
                              go_ret
                              exact ⟨rfl, gb_drewR G0.out _⟩
                            | true =>
                              go_wp2
                              go_ret
                              exact ⟨rfl, gb_drewR G0.out _⟩
                        | true =>
                          cases c1 with
                          | false =>
                            go_wp2
                            go_ret
                            exact ⟨rfl, gb_drewR G0.out _⟩
                          | true =>
                            cases c2 with
                            | false =>
                              go_wp2
                              go_ret
                              exact ⟨rfl, gb_drewR G0.out _⟩
                            | true =>
                              go_wp2
                              go_ret
                              exact ⟨rfl, gb_drewR G0.out _⟩
                    | true =>
                      cases bo with
                      | false =>
                        cases c1 with
                        | false =>
                          go_wp2
                          go_ret
                          exact ⟨rfl, gb_drewR G0.out _⟩
                        | true =>
                          cases c2 with
                          | false =>
                            go_wp2
                            go_ret
                            exact ⟨rfl, gb_drewR G0.out _⟩
                          | true =>
                            go_wp2
                            go_ret
                            exact ⟨rfl, gb_drewR G0.out _⟩
                      | true =>
                        cases c1 with
                        | false =>
                          go_wp2
                          go_ret
                          exact ⟨rfl, gb_drewR G0.out _⟩
                        | true =>
                          cases c2 with
                          | false =>
                            go_wp2
                            go_ret
                            exact ⟨rfl, gb_drewR G0.out _⟩
                          | true =>
                            go_wp2
                            go_ret
                            exact ⟨rfl, gb_drewR G0.out _⟩
              | true =>
                go_enter Tryz.func15, Tryz.ntmps15
                go_upto_region 2 with fail
                simp only [List.append_eq, List.cons_append, List.nil_append]
                go_quiet ((first | (go_at_call 14; exact Calls.quiet_of_same ((HP.out _).mono (fun _ _ h => ⟨h.1, h.2.symm⟩))) | (go_at_call 26; exact Calls.quiet_of_same ((HNM.out _ (gb_drewR G0.out _)).mono (fun _ _ h => ⟨h.1, h.2.symm⟩)))))
                go_wp2
                go_ret
                exact ⟨rfl, gb_drewR G0.out _⟩
            | true =>
              go_enter Tryz.func15, Tryz.ntmps15
              go_upto_region 2 with fail
              simp only [List.append_eq, List.cons_append, List.nil_append]
              go_quiet ((first | (go_at_call 14; exact Calls.quiet_of_same ((HP.out _).mono (fun _ _ h => ⟨h.1, h.2.symm⟩))) | (go_at_call 26; exact Calls.quiet_of_same ((HNM.out _ (gb_drewR G0.out _)).mono (fun _ _ h => ⟨h.1, h.2.symm⟩)))))
              go_wp2
              go_ret
              exact ⟨rfl, gb_drewR G0.out _⟩
          | true =>
            go_enter Tryz.func15, Tryz.ntmps15
            go_upto_region 2 with fail
            simp only [List.append_eq, List.cons_append, List.nil_append]
            go_quiet ((first | (go_at_call 14; exact Calls.quiet_of_same ((HP.out _).mono (fun _ _ h => ⟨h.1, h.2.symm⟩))) | (go_at_call 26; exact Calls.quiet_of_same ((HNM.out _ (gb_drewR G0.out _)).mono (fun _ _ h => ⟨h.1, h.2.symm⟩)))))
            go_wp2
            go_ret
            exact ⟨rfl, gb_drewR G0.out _⟩
        | true =>
          go_enter Tryz.func15, Tryz.ntmps15
          go_upto_region 2 with fail
          simp only [List.append_eq, List.cons_append, List.nil_append]
          go_quiet ((first | (go_at_call 14; exact Calls.quiet_of_same ((HP.out _).mono (fun _ _ h => ⟨h.1, h.2.symm⟩))) | (go_at_call 26; exact Calls.quiet_of_same ((HNM.out _ (gb_drewR G0.out _)).mono (fun _ _ h => ⟨h.1, h.2.symm⟩)))))
          go_wp2
          go_ret
          exact ⟨rfl, gb_drewR G0.out _⟩
      | true =>
        cases n0 with
        | false =>
          cases m0 with
          | false =>
            cases k0 with
            | false =>
              cases w0 with
              | false =>
                cases t0 with
                | false =>
                  go_enter Tryz.func15, Tryz.ntmps15
                  go_upto_region 2 with fail
                  simp only [List.append_eq, List.cons_append, List.nil_append]
                  go_quiet ((first | (go_at_call 14; exact Calls.quiet_of_same ((HP.out _).mono (fun _ _ h => ⟨h.1, h.2.symm⟩))) | (go_at_call 26; exact Calls.quiet_of_same ((HNM.out _ (gb_drewR G0.out _)).mono (fun _ _ h => ⟨h.1, h.2.symm⟩)))))
                  cases a1 with
                  | false =>
                    cases c1 with
                    | false =>
                      go_wp2
                      go_ret
                      exact ⟨rfl, gb_drewR G0.out _⟩
                    | true =>
                      cases c2 with
                      | false =>
                        go_wp2
                        go_ret
                        exact ⟨rfl, gb_drewR G0.out _⟩
                      | true =>
                        go_wp2
                        go_ret
                        exact ⟨rfl, gb_drewR G0.out _⟩
                  | true =>
                    cases a2 with
                    | false =>
                      cases c1 with
                      | false =>
                        go_wp2
                        go_ret
                        exact ⟨rfl, gb_drewR G0.out _⟩
                      | true =>
                        cases c2 with
                        | false =>
                          go_wp2
                          go_ret
                          exact ⟨rfl, gb_drewR G0.out _⟩
                        | true =>
                          go_wp2
                          go_ret
                          exact ⟨rfl, gb_drewR G0.out _⟩
                    | true =>
                      cases bo with
                      | false =>
                        cases c1 with
                        | false =>
                          go_wp2
                          go_ret
                          exact ⟨rfl, gb_drewR G0.out _⟩
                        | true =>
                          cases c2 with
                          | false =>
                            go_wp2
                            go_ret
                            exact ⟨rfl, gb_drewR G0.out _⟩
                          | true =>
                            go_wp2
                            go_ret
                            exact ⟨rfl, gb_drewR G0.out _⟩
                      | true =>
                        cases c1 with
                        | false =>
                          go_wp2
                          go_ret
                          exact ⟨rfl, gb_drewR G0.out _⟩
                        | true =>
                          cases c2 with
                          | false =>
                            go_wp2
                            go_ret
                            exact ⟨rfl, gb_drewR G0.out _⟩
                          | true =>
                            go_wp2
                            go_ret
                            exact ⟨rfl, gb_drewR G0.out _⟩
                | true =>
                  go_enter Tryz.func15, Tryz.ntmps15
                  go_upto_region 2 with fail
                  simp only [List.append_eq, List.cons_append, List.nil_append]
                  go_quiet ((first | (go_at_call 14; exact Calls.quiet_of_same ((HP.out _).mono (fun _ _ h => ⟨h.1, h.2.symm⟩))) | (go_at_call 26; exact Calls.quiet_of_same ((HNM.out _ (gb_drewR G0.out _)).mono (fun _ _ h => ⟨h.1, h.2.symm⟩)))))
                  go_wp2
                  go_ret
                  exact ⟨rfl, gb_drewR G0.out _⟩
              | true =>
                go_enter Tryz.func15, Tryz.ntmps15
                go_upto_region 2 with fail
                simp only [List.append_eq, List.cons_append, List.nil_append]
                go_quiet ((first | (go_at_call 14; exact Calls.quiet_of_same ((HP.out _).mono (fun _ _ h => ⟨h.1, h.2.symm⟩))) | (go_at_call 26; exact Calls.quiet_of_same ((HNM.out _ (gb_drewR G0.out _)).mono (fun _ _ h => ⟨h.1, h.2.symm⟩)))))
                go_wp2
                go_ret
                exact ⟨rfl, gb_drewR G0.out _⟩
            | true =>
              go_enter Tryz.func15, Tryz.ntmps15
              go_upto_region 2 with fail
              simp only [List.append_eq, List.cons_append, List.nil_append]
              go_quiet ((first | (go_at_call 14; exact Calls.quiet_of_same ((HP.out _).mono (fun _ _ h => ⟨h.1, h.2.symm⟩))) | (go_at_call 26; exact Calls.quiet_of_same ((HNM.out _ (gb_drewR G0.out _)).mono (fun _ _ h => ⟨h.1, h.2.symm⟩)))))
              go_wp2
              go_ret
              exact ⟨rfl, gb_drewR G0.out _⟩
          | true =>
            go_enter Tryz.func15, Tryz.ntmps15
            go_upto_region 2 with fail
            simp only [List.append_eq, List.cons_append, List.nil_append]
            go_quiet ((first | (go_at_call 14; exact Calls.quiet_of_same ((HP.out _).mono (fun _ _ h => ⟨h.1, h.2.symm⟩))) | (go_at_call 26; exact Calls.quiet_of_same ((HNM.out _ (gb_drewR G0.out _)).mono (fun _ _ h => ⟨h.1, h.2.symm⟩)))))
            go_wp2
            go_ret
            exact ⟨rfl, gb_drewR G0.out _⟩
        | true =>
          go_enter Tryz.func15, Tryz.ntmps15
          go_upto_region 2 with fail
          simp only [List.append_eq, List.cons_append, List.nil_append]
          go_quiet ((first | (go_at_call 14; exact Calls.quiet_of_same ((HP.out _).mono (fun _ _ h => ⟨h.1, h.2.symm⟩))) | (go_at_call 26; exact Calls.quiet_of_same ((HNM.out _ (gb_drewR G0.out _)).mono (fun _ _ h => ⟨h.1, h.2.symm⟩)))))
          go_wp2
          go_ret
          exact ⟨rfl, gb_drewR G0.out _⟩
  | true =>
    go_enter Tryz.func15, Tryz.ntmps15
    go_upto_region 2 with fail
    simp only [List.append_eq, List.cons_append, List.nil_append]
    go_quiet ((first | (go_at_call 14; exact Calls.quiet_of_same ((HP.out _).mono (fun _ _ h => ⟨h.1, h.2.symm⟩))) | (go_at_call 26; exact Calls.quiet_of_same ((HNM.out _ (gb_drewR G0.out _)).mono (fun _ _ h => ⟨h.1, h.2.symm⟩)))))
    go_wp2
    go_ret
    exact ⟨rfl, gb_drewR G0.out _⟩
end Go.Proofs.YthbodkgcbfplgaaGreat
