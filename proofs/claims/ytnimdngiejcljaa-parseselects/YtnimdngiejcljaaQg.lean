/- Package parse: the levels. -/
import Derived.Test.YtnimdngiejcljaaQf
namespace Go.Proofs.Ytnimdngiejcljaa
open Go.RowKit
set_option linter.unusedVariables false
set_option linter.unusedSimpArgs false
set_option maxRecDepth 20000

theorem ops_made {w : World} {b p : Nat} {K : Tk} {k : Nat} {op : Int} {v : Value} {L : List Row} (h : RdAt w b p K k op v L) (l : List Int) : OpsAt p (some ⟨w.heap.size, 0, none⟩) l (w.alloc (.cells (l.map (fun s => Value.int .i64 s)).toArray 3)) v :=
  ⟨⟨w.heap.size, rfl, num_lit w l, by rw [size_alloc]; omega, by have := h.lt; omega, fun e => by have := (SOwn.block h.nds.own _ e).2; omega⟩⟩
theorem ent45 (caps : Array Value) (w : World) : (callFunc 45 caps).run Try.prog w = .ok (.enter 45 caps) w := by kernel_rfl
theorem f_or {b p : Nat} {K : Tk} (n : Nat) (hP : ∀ f, f ≤ n → LvOk b p K 45 (P f (0 + 1))) : LvOk b p K 36 (P (n + 1) 0) := by
  intro nest k v L ts w h ha hL hn hne
  have HV : Hid (∀ j, v.ownBlock = some j → j < w.heap.size) := fun j hj => (SOwn.block h.nds.own j hj).2
  have g0 := World.grownBy_alloc w (.cells #[.int .i64 12] 3) none
  have G0 := hid g0
  have HR := hid (f_row 45 0 n (by decide) (ent45 _) hP (some ⟨w.heap.size, 0, none⟩) 1 (h.grown g0) (ops_made h [12]) ha hL hn hne)
  have HNE := hid hne
  clear h ha hL hne g0 hP
  go_enter Try.func36, Try.ntmps36
  go_wp2_with fail
  refine HR.out.mono ?_
  intro e w4 h4
  have h5 := h4.grown G0.out HV.out
  cases hx : P (n + 1) 0 nest ts with
  | out => exact absurd hx HNE.out
  | bad q c =>
    rw [hx] at h5
    have HXE := hid hx
    obtain ⟨rfl, f5⟩ := h5
    have F5 := hid f5
    clear hx f5 h4
    go_wp2
    refine ⟨rfl, ?_⟩
    rw [HXE.out]
    exact ⟨rfl, F5.out⟩
  | ok a r =>
    rw [hx] at h5
    have HXE := hid hx
    obtain ⟨rfl, h6⟩ := h5
    have H6 := hid h6
    clear hx h6 h4
    go_wp2
    go_end0
    rw [HXE.out]
    exact ⟨rfl, H6.out⟩
theorem ent54 (caps : Array Value) (w : World) : (callFunc 54 caps).run Try.prog w = .ok (.enter 54 caps) w := by kernel_rfl
theorem f_and {b p : Nat} {K : Tk} (n : Nat) (hP : ∀ f, f ≤ n → LvOk b p K 54 (P f (1 + 1))) : LvOk b p K 45 (P (n + 1) 1) := by
  intro nest k v L ts w h ha hL hn hne
  have HV : Hid (∀ j, v.ownBlock = some j → j < w.heap.size) := fun j hj => (SOwn.block h.nds.own j hj).2
  have g0 := World.grownBy_alloc w (.cells #[.int .i64 11, .int .i64 13] 3) none
  have G0 := hid g0
  have HR := hid (f_row 54 1 n (by decide) (ent54 _) hP (some ⟨w.heap.size, 0, none⟩) 2 (h.grown g0) (ops_made h [11, 13]) ha hL hn hne)
  have HNE := hid hne
  clear h ha hL hne g0 hP
  go_enter Try.func45, Try.ntmps45
  go_wp2_with fail
  refine HR.out.mono ?_
  intro e w4 h4
  have h5 := h4.grown G0.out HV.out
  cases hx : P (n + 1) 1 nest ts with
  | out => exact absurd hx HNE.out
  | bad q c =>
    rw [hx] at h5
    have HXE := hid hx
    obtain ⟨rfl, f5⟩ := h5
    have F5 := hid f5
    clear hx f5 h4
    go_wp2
    refine ⟨rfl, ?_⟩
    rw [HXE.out]
    exact ⟨rfl, F5.out⟩
  | ok a r =>
    rw [hx] at h5
    have HXE := hid hx
    obtain ⟨rfl, h6⟩ := h5
    have H6 := hid h6
    clear hx h6 h4
    go_wp2
    go_end0
    rw [HXE.out]
    exact ⟨rfl, H6.out⟩
theorem ent62 (caps : Array Value) (w : World) : (callFunc 62 caps).run Try.prog w = .ok (.enter 62 caps) w := by kernel_rfl
theorem f_cmp {b p : Nat} {K : Tk} (n : Nat) (hP : ∀ f, f ≤ n → LvOk b p K 62 (P f (2 + 1))) : LvOk b p K 54 (P (n + 1) 2) := by
  intro nest k v L ts w h ha hL hn hne
  have HV : Hid (∀ j, v.ownBlock = some j → j < w.heap.size) := fun j hj => (SOwn.block h.nds.own j hj).2
  have g0 := World.grownBy_alloc w (.cells #[.int .i64 5, .int .i64 6, .int .i64 7, .int .i64 8, .int .i64 9, .int .i64 10] 3) none
  have G0 := hid g0
  have HR := hid (f_row 62 2 n (by decide) (ent62 _) hP (some ⟨w.heap.size, 0, none⟩) 6 (h.grown g0) (ops_made h [5, 6, 7, 8, 9, 10]) ha hL hn hne)
  have HNE := hid hne
  clear h ha hL hne g0 hP
  go_enter Try.func54, Try.ntmps54
  go_wp2_with fail
  refine HR.out.mono ?_
  intro e w4 h4
  have h5 := h4.grown G0.out HV.out
  cases hx : P (n + 1) 2 nest ts with
  | out => exact absurd hx HNE.out
  | bad q c =>
    rw [hx] at h5
    have HXE := hid hx
    obtain ⟨rfl, f5⟩ := h5
    have F5 := hid f5
    clear hx f5 h4
    go_wp2
    refine ⟨rfl, ?_⟩
    rw [HXE.out]
    exact ⟨rfl, F5.out⟩
  | ok a r =>
    rw [hx] at h5
    have HXE := hid hx
    obtain ⟨rfl, h6⟩ := h5
    have H6 := hid h6
    clear hx h6 h4
    go_wp2
    go_end0
    rw [HXE.out]
    exact ⟨rfl, H6.out⟩
theorem ent68 (caps : Array Value) (w : World) : (callFunc 68 caps).run Try.prog w = .ok (.enter 68 caps) w := by kernel_rfl
theorem f_sum {b p : Nat} {K : Tk} (n : Nat) (hP : ∀ f, f ≤ n → LvOk b p K 68 (P f (3 + 1))) : LvOk b p K 62 (P (n + 1) 3) := by
  intro nest k v L ts w h ha hL hn hne
  have HV : Hid (∀ j, v.ownBlock = some j → j < w.heap.size) := fun j hj => (SOwn.block h.nds.own j hj).2
  have g0 := World.grownBy_alloc w (.cells #[.int .i64 1, .int .i64 2] 3) none
  have G0 := hid g0
  have HR := hid (f_row 68 3 n (by decide) (ent68 _) hP (some ⟨w.heap.size, 0, none⟩) 2 (h.grown g0) (ops_made h [1, 2]) ha hL hn hne)
  have HNE := hid hne
  clear h ha hL hne g0 hP
  go_enter Try.func62, Try.ntmps62
  go_wp2_with fail
  refine HR.out.mono ?_
  intro e w4 h4
  have h5 := h4.grown G0.out HV.out
  cases hx : P (n + 1) 3 nest ts with
  | out => exact absurd hx HNE.out
  | bad q c =>
    rw [hx] at h5
    have HXE := hid hx
    obtain ⟨rfl, f5⟩ := h5
    have F5 := hid f5
    clear hx f5 h4
    go_wp2
    refine ⟨rfl, ?_⟩
    rw [HXE.out]
    exact ⟨rfl, F5.out⟩
  | ok a r =>
    rw [hx] at h5
    have HXE := hid hx
    obtain ⟨rfl, h6⟩ := h5
    have H6 := hid h6
    clear hx h6 h4
    go_wp2
    go_end0
    rw [HXE.out]
    exact ⟨rfl, H6.out⟩
theorem f_term {b p : Nat} {K : Tk} (n : Nat) (hP : ∀ f, f ≤ n → LvOk b p K 71 (P f (4 + 1))) : LvOk b p K 68 (P (n + 1) 4) := by
  intro nest k v L ts w h ha hL hn hne
  have HV : Hid (∀ j, v.ownBlock = some j → j < w.heap.size) := fun j hj => (SOwn.block h.nds.own j hj).2
  have g0 := World.grownBy_alloc w (.cells #[.int .i64 3, .int .i64 4] 3) none
  have G0 := hid g0
  have HR := hid (f_row 71 4 n (by decide) (ent71 _) hP (some ⟨w.heap.size, 0, none⟩) 2 (h.grown g0) (ops_made h [3, 4]) ha hL hn hne)
  have HNE := hid hne
  clear h ha hL hne g0 hP
  go_enter Try.func68, Try.ntmps68
  go_wp2_with fail
  refine HR.out.mono ?_
  intro e w4 h4
  have h5 := h4.grown G0.out HV.out
  cases hx : P (n + 1) 4 nest ts with
  | out => exact absurd hx HNE.out
  | bad q c =>
    rw [hx] at h5
    have HXE := hid hx
    obtain ⟨rfl, f5⟩ := h5
    have F5 := hid f5
    clear hx f5 h4
    go_wp2
    refine ⟨rfl, ?_⟩
    rw [HXE.out]
    exact ⟨rfl, F5.out⟩
  | ok a r =>
    rw [hx] at h5
    have HXE := hid hx
    obtain ⟨rfl, h6⟩ := h5
    have H6 := hid h6
    clear hx h6 h4
    go_wp2
    go_end0
    rw [HXE.out]
    exact ⟨rfl, H6.out⟩
theorem lv_zero {b p : Nat} {K : Tk} (fn lv : Nat) : LvOk b p K fn (P 0 lv) := fun nest k v L ts w h ha hL hn hne => absurd rfl hne
theorem levels {b p : Nat} {K : Tk} : ∀ n f, f ≤ n → LvOk b p K 36 (P f 0) ∧ LvOk b p K 45 (P f 1) ∧ LvOk b p K 54 (P f 2) ∧ LvOk b p K 62 (P f 3) ∧ LvOk b p K 68 (P f 4) ∧ LvOk b p K 71 (P f 5) ∧ LvOk b p K 72 (P f 6) := by
  intro n
  induction n with
  | zero =>
    intro f hf
    obtain rfl : f = 0 := by omega
    exact ⟨lv_zero _ _, lv_zero _ _, lv_zero _ _, lv_zero _ _, lv_zero _ _, lv_zero _ _, lv_zero _ _⟩
  | succ n ih =>
    intro f hf
    by_cases hfn : f ≤ n
    · exact ih f hfn
    · obtain rfl : f = n + 1 := by omega
      refine ⟨f_or n fun g hg => (ih g hg).2.1, f_and n fun g hg => (ih g hg).2.2.1, f_cmp n fun g hg => (ih g hg).2.2.2.1, f_sum n fun g hg => (ih g hg).2.2.2.2.1, f_term n fun g hg => (ih g hg).2.2.2.2.2.1, f_unary n (ih n (Nat.le_refl _)).2.2.2.2.2.1 (ih n (Nat.le_refl _)).2.2.2.2.2.2, ?_⟩
      exact f_oneR (P n 0) (ih n (Nat.le_refl _)).1 (fun m us hu => P_few n 0 m us hu)
/-- or, with enough fuel. -/
theorem f_top {b p : Nat} {K : Tk} {k : Nat} {v : Value} {L : List Row} {ts : List Tok} {w : World} (h : RdAt w b p K k 0 v L) (ha : Ahead K k ts) (hL : L.length ≤ k) :
    Calls Try.prog 36 #[.pointer (some ⟨p, 0, none⟩)] w fun e w' => PQ b p K k 0 v L (P (8 * ts.length + 8) 0 0 ts) w e w' :=
  (levels _ _ (Nat.le_refl _)).1 0 k v L ts w h ha hL (by decide) (fine_ne (P_fine _ 0 0 ts (by decide) (by have := take_ahead ha; omega) (by unfold fuelN; simp)))
end Go.Proofs.Ytnimdngiejcljaa
