/- Package parse: query; what is thrown is caught. -/
import Derived.Test.YtnimdngiejcljaaQg
import Derived.Recover
namespace Go.Proofs.Ytnimdngiejcljaa
open Go.RowKit
set_option linter.unusedVariables false
set_option linter.unusedSimpArgs false
set_option maxRecDepth 20000

/-- What query answers. -/
def QrOut (b p : Nat) (R : Pr) (w : World) (e : Ending) (w' : World) : Prop :=
  match R with
  | .ok ns => ∃ v' Q, e = .returned v' ∧ NdAt w' b v' Q ∧ Q.map (·.1) = ns ∧ Fr (Me p) w w'
  | .bad q c => e = .panicked (flt q c) ∧ Fr (Me p) w w'
theorem f_query {b p : Nat} {K : Tk} {ts : List Tok} {w : World} (h : RdAt w b p K 0 0 (.slice none 0 0) []) (ha : Ahead K 0 ts) :
    Calls Try.prog 20 #[.pointer (some ⟨p, 0, none⟩)] w fun e w' => QrOut b p (parseT ts) w e w' := by
  have HT := hid (f_top h ha (Nat.zero_le _))
  have HWR : Hid (∀ j, Wr p (.slice none 0 0) j → Me p j) := fun j e => by
    rcases e with e | e
    · exact e
    · cases e
  have HNE := hid (fine_ne (P_fine (8 * ts.length + 8) 0 0 ts (by decide) (by have := take_ahead ha; omega) (by unfold fuelN; simp)))
  obtain ⟨X, eX⟩ : ∃ X, P (8 * ts.length + 8) 0 0 ts = X := ⟨_, rfl⟩
  have EX : Hid (parseT ts = endR X) := by show _ = _; unfold parseT; rw [eX]
  rw [eX] at HT HNE
  rw [EX.out]
  clear h ha eX
  go_enter Try.func20, Try.ntmps20
  go_wp2_with fail
  refine HT.out.mono ?_
  intro e w1 h1
  cases X with
  | out => exact absurd rfl HNE.out
  | bad q c =>
    obtain ⟨rfl, f1⟩ := h1
    have F1 := hid (f1.mono (fun j _ e => HWR.out j e))
    clear f1 HT
    go_wp2
    exact ⟨rfl, rfl, F1.out⟩
  | ok a r =>
    obtain ⟨rfl, v1, k1, Q1, h1, hq1, ha1, hk1, a1⟩ := h1
    rw [List.nil_append] at h1
    have H1 := hid h1
    have HQ1 := hid hq1
    have HA1 := hid ha1
    have F1 : Hid (Fr (Me p) w w1) := a1.fr.mono (fun j _ e => HWR.out j e)
    have f0 := fld0 (.int .i64 (hd r).1) (.int .i64 (hd r).2.1) (.string (hd r).2.2.1) (.int .i64 (hd r).2.2.2)
    clear h1 hq1 ha1 a1 HT
    go_wp2_with fail
    refine (f_here H1.out HA1.out).mono ?_
    rintro e w2 ⟨rfl, g2⟩
    have H2 := hid (H1.out.grown g2)
    have F2 : Hid (Fr (Me p) w w2) := F1.out.trans (.of (S := Me p) g2) (fun _ _ e => e)
    unfold tkV
    clear g2
    by_cases h0 : (hd r).1 = 0
    · have q0 : ((hd r).1 == 0) = true := by simpa using h0
      have ER : Hid (endR (.ok a r) = .ok a) := by show _ = _; unfold endR; simp only [h0, if_true]
      clear h0
      go_wp2_with fail
      refine (f_must H2.out HA1.out true).mono ?_
      rintro e w3 ⟨⟨_, rfl⟩ | ⟨h, _⟩, g3⟩
      · have H3 := hid (H2.out.grown g3)
        have F3 : Hid (Fr (Me p) w w3) := F2.out.trans (.of (S := Me p) g3) (fun _ _ e => e)
        have c3 := H3.out.cells.2.2.2
        obtain ⟨x1, x2, x3⟩ := H3.out.nds.val
        have EV := hid x3
        rw [x3] at c3
        clear g3 x3
        go_wp2
        go_ret
        rw [ER.out]
        exact ⟨_, Q1, rfl, by rw [← EV.out]; exact H3.out.nds, HQ1.out, F3.out⟩
      · cases h
    · have q0 : ((hd r).1 == 0) = false := by simpa using h0
      have ER : Hid (endR (.ok a r) = .bad (hd r).2.1 181) := by show _ = _; unfold endR; simp only [h0, if_false]
      have EC : Hid (failC r = 181) := by show _ = _; unfold failC; rw [if_neg h0]
      clear h0
      go_wp2_with fail
      refine (f_must H2.out HA1.out false).mono ?_
      rintro e w3 ⟨⟨h, _⟩ | ⟨_, rfl⟩, g3⟩
      · cases h
      · have F3 : Hid (Fr (Me p) w w3) := F2.out.trans (.of (S := Me p) g3) (fun _ _ e => e)
        clear g3
        go_wp2
        refine ⟨rfl, ?_⟩
        rw [ER.out]
        exact ⟨by rw [EC.out], F3.out⟩
theorem run_flt (x : Value) (w : World) : (Instr.typeAssert (.iface 63 x) 20 63 true).run Try.prog w = .ok (.tuple #[x, .bool true]) w := by kernel_rfl
theorem c_idle (c d : Nat) (w : World) : CallsD Try.prog 35 #[.pointer (some ⟨c, 0, none⟩), .pointer (some ⟨d, 0, none⟩)] .returning w fun e u' w' => e = .returned (.tuple #[]) ∧ u' = .returning ∧ w' = w := by
  refine callsD_of_wpS Try.func35 rfl fun c₀ cs hu => ?_
  apply wpS_seq
  apply wpS_region
  simp [wpOpsS, go_sem, recoverD, hu, Try.ntmps35, Exit.thenS]
  refine wpS_of_wp ?_
  refine wp_block ?_
  go_wp2
  cases c₀
  simp_all [bodyPostS, results, Try.results35]
set_option maxHeartbeats 4000000 in
theorem c_catch (c d : Nat) (x y : Int) (w : World) (hc : w.heap[c]? = some (.cells #[.int .i64 0] 3 (0, 0))) (hd : w.heap[d]? = some (.cells #[.int .i64 0] 23 (0, 0))) (hcd : c ≠ d) :
    CallsD Try.prog 35 #[.pointer (some ⟨c, 0, none⟩), .pointer (some ⟨d, 0, none⟩)] (.panicking ({ v := .iface 63 (.agg #[.int .i64 x, .int .i64 y]), recovered := false } :: [])) w fun e u' w' =>
      e = .returned (.tuple #[]) ∧ u' = .panicking ({ v := .iface 63 (.agg #[.int .i64 x, .int .i64 y]), recovered := true } :: []) ∧ w'.cell? ⟨c, 0, none⟩ = some (.int .i64 x) ∧ w'.cell? ⟨d, 0, none⟩ = some (.int .i64 y) ∧ Fr (fun j => j = c ∨ j = d) w w' := by
  refine callsD_of_wpS Try.func35 rfl fun c₀ cs hu => ?_
  have hta := run_flt (.agg #[.int .i64 x, .int .i64 y])
  have lc := (Array.getElem?_eq_some_iff.1 hc).1
  have ld := (Array.getElem?_eq_some_iff.1 hd).1
  have HG := hid (World.grownBy_alloc w (.cells #[.int .i64 x, .int .i64 y] 63) none)
  have nc : c ≠ w.heap.size := by omega
  have nd : d ≠ w.heap.size := by omega
  have c0 := one_cell hc
  have d0 := one_cell hd
  have c1 := free_row hc 0
  have d1 := free_row hd 0
  have HFW : Hid (∀ W, (W = (((w.setCell ⟨c, 0, none⟩ (.int .i64 x)).setCell ⟨d, 0, none⟩ (.int .i64 y)).alloc (.cells #[.int .i64 x, .int .i64 y] 63)).drew ∨ W = (((w.setCell ⟨d, 0, none⟩ (.int .i64 y)).setCell ⟨c, 0, none⟩ (.int .i64 x)).alloc (.cells #[.int .i64 x, .int .i64 y] 63)).drew) → W.cell? ⟨c, 0, none⟩ = some (.int .i64 x) ∧ W.cell? ⟨d, 0, none⟩ = some (.int .i64 y) ∧ Fr (fun j => j = c ∨ j = d) w W) := by
    rintro W (rfl | rfl)
    · have r1 : (w.setCell ⟨c, 0, none⟩ (.int .i64 x)).heap[d]? = some (.cells #[.int .i64 0] 23 (0, 0)) := by rw [set_other (fun e => hcd e.symm)]; exact hd
      have r2 : ((w.setCell ⟨c, 0, none⟩ (.int .i64 x)).setCell ⟨d, 0, none⟩ (.int .i64 y)).heap[c]? = some (.cells #[.int .i64 x] 3 (0, 0)) := by rw [set_other hcd]; exact one_set hc _
      have ga := World.grownBy_alloc ((w.setCell ⟨c, 0, none⟩ (.int .i64 x)).setCell ⟨d, 0, none⟩ (.int .i64 y)) (.cells #[.int .i64 x, .int .i64 y] 63) none
      exact ⟨(gb_drew ga).cell (one_cell r2) (by simp), (gb_drew ga).cell (one_cell (one_set r1 _)) (by simp), (((fr_set c 0 w (.int .i64 x)).mono (S' := fun j => j = c ∨ j = d) (fun _ _ e => .inl e)).trans (fr_set d 0 _ _) (fun _ _ e => .inr e)).trans (.of (S := fun j => j = c ∨ j = d) (gb_drew ga)) (fun _ _ e => e)⟩
    · have r1 : (w.setCell ⟨d, 0, none⟩ (.int .i64 y)).heap[c]? = some (.cells #[.int .i64 0] 3 (0, 0)) := by rw [set_other hcd]; exact hc
      have r2 : ((w.setCell ⟨d, 0, none⟩ (.int .i64 y)).setCell ⟨c, 0, none⟩ (.int .i64 x)).heap[d]? = some (.cells #[.int .i64 y] 23 (0, 0)) := by rw [set_other (fun e => hcd e.symm)]; exact one_set hd _
      have ga := World.grownBy_alloc ((w.setCell ⟨d, 0, none⟩ (.int .i64 y)).setCell ⟨c, 0, none⟩ (.int .i64 x)) (.cells #[.int .i64 x, .int .i64 y] 63) none
      exact ⟨(gb_drew ga).cell (one_cell (one_set r1 _)) (by simp), (gb_drew ga).cell (one_cell r2) (by simp), (((fr_set d 0 w (.int .i64 y)).mono (S' := fun j => j = c ∨ j = d) (fun _ _ e => .inr e)).trans (fr_set c 0 _ _) (fun _ _ e => .inl e)).trans (.of (S := fun j => j = c ∨ j = d) (gb_drew ga)) (fun _ _ e => e)⟩
  have HCD := hid hcd
  clear hc hd HG
  apply wpS_seq
  apply wpS_region
  simp [wpOpsS, go_sem, recoverD, hu, Try.ntmps35, Exit.thenS]
  refine wpS_of_wp ?_
  refine wp_block ?_
  go_wp2
  go_region
  all_goals go_wp2
  all_goals first
    | (generalize hW : (((w.setCell ⟨c, 0, none⟩ (.int .i64 x)).setCell ⟨d, 0, none⟩ (.int .i64 y)).alloc (.cells #[.int .i64 x, .int .i64 y] 63)).drew = W
       have HX := hid (HFW.out W (.inl hW.symm))
       clear hW HFW hta
       cases c₀
       simp [bodyPostS, results, Try.results35]
       exact HX.out)
    | (generalize hW : (((w.setCell ⟨d, 0, none⟩ (.int .i64 y)).setCell ⟨c, 0, none⟩ (.int .i64 x)).alloc (.cells #[.int .i64 x, .int .i64 y] 63)).drew = W
       have HX := hid (HFW.out W (.inr hW.symm))
       clear hW HFW hta
       cases c₀
       simp [bodyPostS, results, Try.results35]
       exact HX.out)
end Go.Proofs.Ytnimdngiejcljaa
