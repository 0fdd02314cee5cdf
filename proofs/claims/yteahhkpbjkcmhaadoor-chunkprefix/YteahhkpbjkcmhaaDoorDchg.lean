/- Package chunk: the reader: a window, a change. -/
import Derived.Test.YteahhkpbjkcmhaaDoorDbend
import Derived.Test.YteahhkpbjkcmhaaDoorDwin
import Derived.Deep.RegionWith
import Derived.Deep.CutRange
namespace Go.Proofs.YteahhkpbjkcmhaaDoor
open Go.RowKit
set_option linter.unusedVariables false

set_option maxHeartbeats 2000000 in
/-- A window is read: five bits, six bits; none where it has too many bits. -/
theorem d_takeWindow (p : Nat) (a : Option Addr) (zs : List Int) (cap : Nat) (st : Option (List Bool)) (w : World) (h : RdrAt w p a zs cap st) (hr : ∀ w', w.grownBy w' (some p) → Rd w' a zs) (hz : (zs.length : Int) ≤ 140737488355000) :
    Calls Tryd.prog 46 #[.pointer (some ⟨p, 0, none⟩)] w fun e w' => ∃ (A w6 : Int) (s1 s2 : Option (List Bool)) (pa pb : Nat), e = .returned (.agg #[.int .i64 pa, .int .i64 pb]) ∧ (0 ≤ A ∧ A < 32) ∧ (0 ≤ w6 ∧ w6 < 64) ∧ GetR 5 st s1 A ∧ GetR 6 s1 s2 w6 ∧ RdrAt w' p a zs cap s2 ∧ ((A + (w6 + 1) ≤ 64 ∧ (pa : Int) = A ∧ (pb : Int) = 64 - A - (w6 + 1)) ∨ (64 < A + (w6 + 1) ∧ pa = 64 ∧ pb = 0)) ∧ w.grownBy w' (some p) := by
  have HT : Hid (∀ (k : Nat) (s : Option (List Bool)) (w' : World), k ≤ 64 → RdrAt w' p a zs cap s → w.grownBy w' (some p) → Calls Tryd.prog 44 #[.pointer (some ⟨p, 0, none⟩), .int .i64 k] w' fun e w'' => ∃ v s', e = .returned (.int .u64 v) ∧ 0 ≤ v ∧ v < 2 ^ k ∧ RdrAt w'' p a zs cap s' ∧ GetR k s s' v ∧ w'.grownBy w'' (some p)) := by
    intro k s w' hk h' hg
    exact d_take p a zs cap k s w' h' (hr w' hg) hz hk
  obtain ⟨o, eo⟩ : ∃ o, o = Obj.cells #[.int .i64 0, .int .i64 0] 64 := ⟨_, rfl⟩
  have hpl : p < w.heap.size := by obtain ⟨n, bad, hrow, _⟩ := h; exact hrow.lt
  have HA : Hid (w.grownBy (w.alloc (.cells #[.int .i64 0, .int .i64 0] 64)) (some p)) := World.grownBy_alloc _ _ _
  have H0 : Hid (RdrAt (w.alloc (.cells #[.int .i64 0, .int .i64 0] 64)) p a zs cap st) := h.kept (World.grownBy_alloc w _ none) (by simp)
  have hne : ¬ w.heap.size = p := by omega
  have HSZ : Hid (w.heap.size < (w.alloc (.cells #[.int .i64 0, .int .i64 0] 64)).heap.size) := by show _ < _; rw [World.alloc, Array.size_push]; omega
  obtain ⟨q, eq⟩ : ∃ q, q = w.heap.size := ⟨_, rfl⟩
  have HRQ : Hid ((w.alloc (.cells #[.int .i64 0, .int .i64 0] 64)).rowIs q 64 2 (fun _ => .int .i64 0)) := by
    show World.rowIs _ _ _ _ _
    rw [eq]
    refine World.rowIs_alloc w #[.int .i64 0, .int .i64 0] 64 _ fun i hi => ?_
    match i, hi with
    | 0, _ => rfl
    | 1, _ => rfl
  clear h hr eo o
  go_enter Tryd.func46, Tryd.ntmps46
  go_wp2_with fail
  obtain ⟨w1, hw1⟩ : ∃ w1, w1 = w.alloc (.cells #[.int .i64 0, .int .i64 0] 64) := ⟨_, rfl⟩
  rw [← hw1, ← eq]
  rw [← hw1] at HA H0 HRQ HSZ
  rw [← eq] at hne HSZ hpl
  have HQW : Hid (w.heap.size ≤ q) := by show _ ≤ _; omega
  clear hw1 eq
  refine (HT.out 5 st w1 (by omega) H0.out HA.out).mono ?_
  rintro e w2 ⟨A, s1, rfl, hA0, hA1, hR1, hg1, hG1⟩
  have hA2 : A < 32 := hA1
  have HR1 : Hid (RdrAt w2 p a zs cap s1) := hR1
  have HGR1 : Hid (GetR 5 st s1 A) := hg1
  have HG1 : Hid (w.grownBy w2 (some p)) := gb_trans HA.out hG1 (fun k hk => .inr hk)
  have HRQ1 : Hid (w2.rowIs q 64 2 (fun _ => .int .i64 0)) := HRQ.out.of_block (hG1.block q HSZ.out (by simpa using hne))
  have eA : wrap64 A = A := by rw [wrap64_is]; exact wrap_id _ (by omega)
  clear hR1 hg1 hG1 hA1 HRQ H0 HA HSZ
  go_wp2_with fail
  refine (HT.out 6 s1 w2 (by omega) HR1.out HG1.out).mono ?_
  rintro e w3 ⟨w6, s2, rfl, hB0, hB1, hR2, hg2, hG2⟩
  have hB2 : w6 < 64 := hB1
  have HR2 : Hid (RdrAt w3 p a zs cap s2) := hR2
  have HGR2 : Hid (GetR 6 s1 s2 w6) := hg2
  have HG2 : Hid (w.grownBy w3 (some p)) := gb_trans HG1.out hG2 (fun k hk => .inr hk)
  have hrq : w3.rowIs q 64 2 (fun _ => .int .i64 0) := HRQ1.out.of_block (hG2.block q HRQ1.out.lt (by simpa using hne))
  have hql : q < w3.heap.size := hrq.lt
  have c0 : w3.cell? ⟨q, 0, none⟩ = some (.int .i64 0) := hrq.cell (i := 0) (by omega)
  have c1 : w3.cell? ⟨q, 1, none⟩ = some (.int .i64 0) := hrq.cell (i := 1) (by omega)
  have f0 := hrq.frozen 0
  have f1 := hrq.frozen 1
  have eB : wrap64 w6 = w6 := by rw [wrap64_is]; exact wrap_id _ (by omega)
  clear hR2 hg2 hG2 hB1 HRQ1 hrq
  have HEND : Hid (∀ (o : Option Obj) (x y : Int), let w4 := (match o with | some o => w3.alloc o | none => w3); RdrAt ((w4.setCell ⟨q, 0, none⟩ (.int .i64 x)).setCell ⟨q, 1, none⟩ (.int .i64 y)) p a zs cap s2 ∧ w.grownBy ((w4.setCell ⟨q, 0, none⟩ (.int .i64 x)).setCell ⟨q, 1, none⟩ (.int .i64 y)) (some p)) := by
    intro o x y
    have h4 : w3.grownBy (match o with | some o => w3.alloc o | none => w3) none := by
      cases o with
      | none => exact World.grownBy.refl _ _
      | some o => exact World.grownBy_alloc _ _ none
    have h5 : w3.grownBy (((match o with | some o => w3.alloc o | none => w3).setCell ⟨q, 0, none⟩ (.int .i64 x)).setCell ⟨q, 1, none⟩ (.int .i64 y)) (some q) := gb_trans (gb_any h4 _) (gb_trans (gb_set rfl) (gb_set rfl) (fun k hk => .inr hk)) (fun k hk => .inr hk)
    exact ⟨HR2.out.kept h5 (by simpa using fun e => hne e.symm), gb_trans HG2.out h5 (fun k hk => by cases hk; exact .inl HQW.out)⟩
  by_cases hb : 64 < A + (w6 + 1)
  · have q1 : decide ((64 : Int) - A - w6 - 1 < 0) = true := by simp; omega
    have hb2 : (64 : Int) - A - w6 - 1 < 0 := by omega
    go_wp2_with fail
    refine (d_noWindow w3).mono ?_
    rintro e w4 ⟨rfl, rfl⟩
    go_wp2
    refine bodyPost_ret (v := .agg #[.int .i64 ((64 : Nat) : Int), .int .i64 ((0 : Nat) : Int)]) ?_ rfl ⟨A, w6, s1, s2, 64, 0, rfl, ⟨hA0, hA2⟩, ⟨hB0, hB2⟩, HGR1.out, HGR2.out, ?_, .inr ⟨hb, rfl, rfl⟩, ?_⟩
    · simp [results, Tryd.results46, go_sem, hql, c0, c1]
    · exact (HEND.out none 64 0).1.kept (World.grownBy_alloc _ _ none) (by simp)
    · exact gb_trans (HEND.out none 64 0).2 (World.grownBy_alloc _ _ none) (by simp)
  · have q1 : decide ((64 : Int) - A - w6 - 1 < 0) = false := by simp; omega
    have hb2 : ¬ (64 : Int) - A - w6 - 1 < 0 := by omega
    obtain ⟨pa, rfl⟩ : ∃ pa : Nat, A = pa := ⟨A.toNat, by omega⟩
    obtain ⟨pb, epb⟩ : ∃ pb : Nat, (64 : Int) - pa - w6 - 1 = pb := ⟨((64 : Int) - pa - w6 - 1).toNat, by omega⟩
    go_wp2
    refine bodyPost_ret (v := .agg #[.int .i64 (pa : Int), .int .i64 (pb : Int)]) ?_ rfl ⟨pa, w6, s1, s2, pa, pb, rfl, ⟨hA0, hA2⟩, ⟨hB0, hB2⟩, HGR1.out, HGR2.out, ?_, .inl ⟨by omega, rfl, by omega⟩, ?_⟩
    · simp [results, Tryd.results46, go_sem, c0, c1]
    · have h := (HEND.out none pa pb).1
      first | exact h | (rw [← epb] at h; exact h)
    · have h := (HEND.out none pa pb).2
      first | exact h | (rw [← epb] at h; exact h)
end Go.Proofs.YteahhkpbjkcmhaaDoor
