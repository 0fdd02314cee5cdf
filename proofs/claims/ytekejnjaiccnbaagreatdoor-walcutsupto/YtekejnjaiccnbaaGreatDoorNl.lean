/- Several texts in one: Zt, Zu, Zv, Zx, Zy. -/
import Derived.Test.YtekejnjaiccnbaaGreatDoorNj
import Derived.Test.YtekejnjaiccnbaaGreatDoorNg
/- Package wal: put, on a disk that may be armed. (Printed by mk_putA.py.) -/
namespace Go.Proofs.YtekejnjaiccnbaaGreatDoor
open Go.RowKit Go.Maps Go.Sort
set_option linter.unusedVariables false
set_option maxRecDepth 20000

/-- Append's contract, whatever is handed in. -/
def AppsTo (w : World) (base d mb n : Nat) (x : DSt) (B : Nat → Prop) (s : ByteArray) (fv : Value) (zs : List Int) : Prop := ∀ w1, w.grownBy w1 none → Calls Tryz.prog 27 #[.pointer (some ⟨d, 0, none⟩), .string s, fv] w1 (Leaves w1 base d mb n (x.append s zs) B)
set_option maxHeartbeats 8000000 in
theorem w_putG (base d mb n : Nat) (x : DSt) (p : Nat) (dir cp name : ByteArray) (segs : List Nat) (op : Nat) (A B : Nat → Prop) (fv : Value) (zs : List Int) (w : World) (hdir : dirB dir = true) (h : LogAt w base d mb n x p dir cp segs op A B) (hap : AppsTo w base d mb n x B (newN dir) fv zs) (hok : x.ok) (hn : n < 1048576) (hname : nameB name = true) (x1 : DSt) (ex1 : x.append (newN dir) zs = (0, x1)) (hok1 : x1.ok) (x2 : DSt) (ex2 : x1.sync (newN dir) = (0, x2)) (hok2 : x2.ok) (x3 : DSt) (ex3 : x2.rename (newN dir) name = (0, x3)) :
    Calls Tryz.prog 100 #[.pointer (some ⟨p, 0, none⟩), .string name, fv] w fun e w' => e = .returned (.tuple #[]) ∧ ∃ n' B', n' ≤ n + 2 ∧ LogAt w' base d mb n' x3 p dir cp segs op A B' ∧ Step2 w w' A B A B' := by
  have hds : dir.size ≤ 32 := by simp only [dirB, Bool.and_eq_true, decide_eq_true_eq] at hdir; exact hdir.2
  have hnm := new_name hdir
  have HD0 := fun w => w_done0 w
  have HDP := fun w => w_doneP 60 (by decide) w
  have A1 : Hid (∀ w1, w.grownBy w1 none → Calls Tryz.prog 27 #[.pointer (some ⟨d, 0, none⟩), .string (newN dir), fv] w1 fun e w' => e = .returned (.int .i64 0) ∧ ∃ n' B', n' ≤ n + 1 ∧ LogAt w' base d mb n' x1 p dir cp segs op A B' ∧ Step2 w w' A B A B') := fun w1 hg => by
    have h1 := h.grown hg
    refine (hap w1 hg).mono ?_
    rintro e w' ⟨rfl, n', B', hn', hd', hst⟩
    rw [ex1] at hd' ⊢
    obtain ⟨B'', h2, h3⟩ := h1.write hd' hst
    exact ⟨rfl, n', B'', hn', h2, (Step2.grown A B hg).trans h3⟩
  have A2 : Hid (∀ n1 B1 w1, LogAt w1 base d mb n1 x1 p dir cp segs op A B1 → Calls Tryz.prog 53 #[.pointer (some ⟨d, 0, none⟩), .string (newN dir)] w1 fun e w' => e = .returned (.int .i64 0) ∧ ∃ n' B', n' ≤ n1 ∧ LogAt w' base d mb n' x2 p dir cp segs op A B' ∧ Step2 w1 w' A B1 A B') := fun n1 B1 w1 h1 => by
    refine (x_syncN base d mb n1 x1 B1 (newN dir) w1 h1.disk hok1 hnm).mono ?_
    rintro e w' ⟨rfl, n', B', hn', hd', hst⟩
    rw [ex2] at hd' ⊢
    obtain ⟨B'', h2, h3⟩ := h1.write hd' hst
    exact ⟨rfl, n', B'', hn', h2, h3⟩
  have A3 : Hid (∀ n1 B1 w1, n1 ≤ 1048576 → LogAt w1 base d mb n1 x2 p dir cp segs op A B1 → Calls Tryz.prog 127 #[.pointer (some ⟨d, 0, none⟩), .string (newN dir), .string name] w1 fun e w' => e = .returned (.int .i64 0) ∧ ∃ n' B', n' ≤ n1 + 1 ∧ LogAt w' base d mb n' x3 p dir cp segs op A B' ∧ Step2 w1 w' A B1 A B') := fun n1 B1 w1 hn1 h1 => by
    refine (x_rename base d mb n1 x2 B1 (newN dir) name w1 h1.disk hok2 hnm hname hn1).mono ?_
    rintro e w' ⟨rfl, n', B', hn', hd', hst⟩
    rw [ex3] at hd' ⊢
    obtain ⟨B'', h2, h3⟩ := h1.write hd' hst
    exact ⟨rfl, n', B'', hn', h2, h3⟩
  have HDR : Hid (∀ w1 n1 x' B1, LogAt w1 base d mb n1 x' p dir cp segs op A B1 → Calls Tryz.prog 92 #[.pointer (some ⟨p, 0, none⟩)] w1 fun e w' => e = .returned (.string (newN dir)) ∧ w1 = w') := fun w1 n1 x' B1 h1 => by
    obtain ⟨a1, c1, hW, _⟩ := h1.wal
    exact w_draft p d dir cp _ _ w1 (by omega) hW
  have HCL : Hid (∀ w1 n1 x' B1, LogAt w1 base d mb n1 x' p dir cp segs op A B1 → w1.cell? ⟨p, 0, none⟩ = some (.pointer (some ⟨d, 0, none⟩))) := fun w1 n1 x' B1 h1 => by
    obtain ⟨a1, c1, hW, _⟩ := h1.wal
    exact hW.cells.1
  have HGD : ∀ W : World, W.grownBy W.drew none := fun W => gb_drew (World.grownBy.refl _ _)
  have HL : Hid (LogAt w base d mb n x p dir cp segs op A B) := h
  have c0 := HCL.out _ _ _ _ h
  have HLd : Hid (LogAt w.drew base d mb n x p dir cp segs op A B) := h.grown (HGD w)
  clear h hap
  go_enter Tryz.func100, Tryz.ntmps100
  go_wp2_with fail
  go_region_held3 (fun W => W.cell? ⟨p, 0, none⟩ = some (.pointer (some ⟨d, 0, none⟩))) (go_keep) (first
    | (go_at_call 92; refine (HDR.out _ _ _ _ HLd.out).mono ?_; rintro e w1 ⟨rfl, rfl⟩)
    | (go_at_call 27; refine (A1.out _ (HGD w)).mono ?_; rintro e w2 ⟨rfl, n1, B1, hn1, hL1, hS1⟩; have HL1 : Hid (LogAt w2 base d mb n1 x1 p dir cp segs op A B1) := hL1; have HS1 : Hid (Step2 w w2 A B A B1) := hS1; have c01 := HCL.out _ _ _ _ hL1; clear hL1 hS1)
    | (go_at_call 52; refine (HD0 _).mono ?_; rintro e w3 ⟨rfl, rfl⟩))
  have HL1d : Hid (LogAt w2.drew base d mb n1 x1 p dir cp segs op A B1) := HL1.out.grown (HGD w2)
  go_wp2_with fail
  go_region_held3 (fun W => W.cell? ⟨p, 0, none⟩ = some (.pointer (some ⟨d, 0, none⟩))) (go_keep) (first
    | (go_at_call 92; refine (HDR.out _ _ _ _ HL1d.out).mono ?_; rintro e w1 ⟨rfl, rfl⟩)
    | (go_at_call 53; refine (A2.out _ _ _ HL1d.out).mono ?_; rintro e w4 ⟨rfl, n2, B2, hn2, hL2, hS2⟩; have HL2 : Hid (LogAt w4 base d mb n2 x2 p dir cp segs op A B2) := hL2; have HS2 : Hid (Step2 w w4 A B A B2) := (HS1.out.trans (Step2.grown A B1 (HGD w2))).trans hS2; have c02 := HCL.out _ _ _ _ hL2; clear hL2 hS2)
    | (go_at_call 52; refine (HD0 _).mono ?_; rintro e w3 ⟨rfl, rfl⟩))
  have HL2d : Hid (LogAt w4.drew base d mb n2 x2 p dir cp segs op A B2) := HL2.out.grown (HGD w4)
  go_wp2_with fail
  go_region_held3 (fun W => W.cell? ⟨p, 0, none⟩ = some (.pointer (some ⟨d, 0, none⟩))) (go_keep) (first
    | (go_at_call 92; refine (HDR.out _ _ _ _ HL2d.out).mono ?_; rintro e w1 ⟨rfl, rfl⟩)
    | (go_at_call 127; refine (A3.out _ _ _ (by omega) HL2d.out).mono ?_; rintro e w6 ⟨rfl, n3, B3, hn3, hL3, hS3⟩; have HL3 : Hid (LogAt w6 base d mb n3 x3 p dir cp segs op A B3) := hL3; have HS3 : Hid (Step2 w w6 A B A B3) := (HS2.out.trans (Step2.grown A B2 (HGD w4))).trans hS3; have c03 := HCL.out _ _ _ _ hL3; clear hL3 hS3)
    | (go_at_call 52; refine (HD0 _).mono ?_; rintro e w3 ⟨rfl, rfl⟩))
  go_wp2
  go_end0
  exact ⟨rfl, n3, B3, by omega, HL3.out, HS3.out⟩
set_option maxHeartbeats 8000000 in
theorem w_putP1 (base d mb n : Nat) (x : DSt) (p : Nat) (dir cp name : ByteArray) (segs : List Nat) (op : Nat) (A B : Nat → Prop) (fv : Value) (zs : List Int) (w : World) (hdir : dirB dir = true) (h : LogAt w base d mb n x p dir cp segs op A B) (hap : AppsTo w base d mb n x B (newN dir) fv zs) (hok : x.ok) (hn : n < 1048576) (hname : nameB name = true) (y : DSt) (ey : x.append (newN dir) zs = (60, y)) :
    Calls Tryz.prog 100 #[.pointer (some ⟨p, 0, none⟩), .string name, fv] w fun e w' => e = .panicked (thrown 60) ∧ ∃ n' B', n' ≤ n + 2 ∧ LogAt w' base d mb n' y p dir cp segs op A B' ∧ Step2 w w' A B A B' := by
  have hds : dir.size ≤ 32 := by simp only [dirB, Bool.and_eq_true, decide_eq_true_eq] at hdir; exact hdir.2
  have hnm := new_name hdir
  have HD0 := fun w => w_done0 w
  have HDP := fun w => w_doneP 60 (by decide) w
  have A1 : Hid (∀ w1, w.grownBy w1 none → Calls Tryz.prog 27 #[.pointer (some ⟨d, 0, none⟩), .string (newN dir), fv] w1 fun e w' => e = .returned (.int .i64 60) ∧ ∃ n' B', n' ≤ n + 1 ∧ LogAt w' base d mb n' y p dir cp segs op A B' ∧ Step2 w w' A B A B') := fun w1 hg => by
    have h1 := h.grown hg
    refine (hap w1 hg).mono ?_
    rintro e w' ⟨rfl, n', B', hn', hd', hst⟩
    rw [ey] at hd' ⊢
    obtain ⟨B'', h2, h3⟩ := h1.write hd' hst
    exact ⟨rfl, n', B'', hn', h2, (Step2.grown A B hg).trans h3⟩
  have HDR : Hid (∀ w1 n1 x' B1, LogAt w1 base d mb n1 x' p dir cp segs op A B1 → Calls Tryz.prog 92 #[.pointer (some ⟨p, 0, none⟩)] w1 fun e w' => e = .returned (.string (newN dir)) ∧ w1 = w') := fun w1 n1 x' B1 h1 => by
    obtain ⟨a1, c1, hW, _⟩ := h1.wal
    exact w_draft p d dir cp _ _ w1 (by omega) hW
  have HCL : Hid (∀ w1 n1 x' B1, LogAt w1 base d mb n1 x' p dir cp segs op A B1 → w1.cell? ⟨p, 0, none⟩ = some (.pointer (some ⟨d, 0, none⟩))) := fun w1 n1 x' B1 h1 => by
    obtain ⟨a1, c1, hW, _⟩ := h1.wal
    exact hW.cells.1
  have HGD : ∀ W : World, W.grownBy W.drew none := fun W => gb_drew (World.grownBy.refl _ _)
  have HL : Hid (LogAt w base d mb n x p dir cp segs op A B) := h
  have c0 := HCL.out _ _ _ _ h
  have HLd : Hid (LogAt w.drew base d mb n x p dir cp segs op A B) := h.grown (HGD w)
  clear h hap
  go_enter Tryz.func100, Tryz.ntmps100
  go_wp2_with fail
  refine wp_region_held_drew (S := fun W => W.cell? ⟨p, 0, none⟩ = some (.pointer (some ⟨d, 0, none⟩))) (by kernel_rfl) (by go_keep) (fun hHeld => ?_)
  refine wpAnyH_take (i := 0) (v := .pointer (some ⟨p, 0, none⟩)) rfl (by kernel_rfl) (by kernel_rfl) (by kernel_rfl) (fun _ _ _ h => h) (Or.inl ⟨by rfl, fun w hSw => ?_⟩) (by assumption) ?_
  · go_simp
  refine wpAnyH_take (i := 1) (v := .pointer (some ⟨p, 0, none⟩)) rfl (by kernel_rfl) (by kernel_rfl) (by kernel_rfl) (fun _ _ _ h => h) (Or.inl ⟨by rfl, fun w hSw => ?_⟩) (by assumption) ?_
  · go_simp
  refine wpAnyH_take (i := 2) (v := .pointer (some ⟨p, 0, none⟩)) rfl (by kernel_rfl) (by kernel_rfl) (by kernel_rfl) (fun _ _ _ h => h) (Or.inl ⟨by rfl, fun w hSw => ?_⟩) (by assumption) ?_
  · go_simp
  refine wpAnyH_take (i := 3) (v := .pointer (some ⟨d, 0, none⟩)) rfl (by kernel_rfl) (by kernel_rfl) (by kernel_rfl) (fun _ _ _ h => h) (Or.inl ⟨by rfl, fun w hSw => ?_⟩) (by assumption) ?_
  · go_simp
  refine wpAnyH_take (i := 4) (v := .pointer (some ⟨p, 0, none⟩)) rfl (by kernel_rfl) (by kernel_rfl) (by kernel_rfl) (fun _ _ _ h => h) (Or.inl ⟨by rfl, fun w hSw => ?_⟩) (by assumption) ?_
  · go_simp
  refine wpAnyH_take (i := 6) (v := fv) rfl (by kernel_rfl) (by kernel_rfl) (by kernel_rfl) (fun _ _ _ h => h) (Or.inl ⟨by rfl, fun w hSw => ?_⟩) (by assumption) ?_
  · go_simp
  refine wpAnyH_ready (rs := [5]) (by kernel_rfl) (by simp) (AllReadyH.cons (i := 5) rfl (fun K hK => ?_) AllReadyH.nil)
  go_simp
  refine (HDR.out _ _ _ _ HLd.out).mono ?_
  rintro e w1 ⟨rfl, rfl⟩
  refine hK.out _ _ (by go_keep) (fun hHeld => ?_)
  clear hK K
  refine wpAnyH_ready (rs := [7]) (by kernel_rfl) (by simp) (AllReadyH.cons (i := 7) rfl (fun K hK => ?_) AllReadyH.nil)
  go_simp
  refine (A1.out _ (HGD w)).mono ?_
  rintro e w2 ⟨rfl, n1, B1, hn1, hL1, hS1⟩
  have HL1 : Hid (LogAt w2 base d mb n1 y p dir cp segs op A B1) := hL1
  have HS1 : Hid (Step2 w w2 A B A B1) := hS1
  have c01 := HCL.out _ _ _ _ hL1
  clear hL1 hS1
  refine hK.out _ _ (by go_keep) (fun hHeld => ?_)
  clear hK K
  refine wpAnyH_ready (rs := [8]) (by kernel_rfl) (by simp) (AllReadyH.cons (i := 8) rfl (fun K hK => ?_) AllReadyH.nil)
  go_simp
  refine (HDP _).mono ?_
  rintro e w3 ⟨rfl, rfl⟩
  exact ⟨rfl, rfl, n1, B1, by omega, HL1.out, HS1.out⟩
set_option maxHeartbeats 8000000 in
theorem w_putP2 (base d mb n : Nat) (x : DSt) (p : Nat) (dir cp name : ByteArray) (segs : List Nat) (op : Nat) (A B : Nat → Prop) (fv : Value) (zs : List Int) (w : World) (hdir : dirB dir = true) (h : LogAt w base d mb n x p dir cp segs op A B) (hap : AppsTo w base d mb n x B (newN dir) fv zs) (hok : x.ok) (hn : n < 1048576) (hname : nameB name = true) (x1 : DSt) (ex1 : x.append (newN dir) zs = (0, x1)) (hok1 : x1.ok) (y : DSt) (ey : x1.sync (newN dir) = (60, y)) :
    Calls Tryz.prog 100 #[.pointer (some ⟨p, 0, none⟩), .string name, fv] w fun e w' => e = .panicked (thrown 60) ∧ ∃ n' B', n' ≤ n + 2 ∧ LogAt w' base d mb n' y p dir cp segs op A B' ∧ Step2 w w' A B A B' := by
  have hds : dir.size ≤ 32 := by simp only [dirB, Bool.and_eq_true, decide_eq_true_eq] at hdir; exact hdir.2
  have hnm := new_name hdir
  have HD0 := fun w => w_done0 w
  have HDP := fun w => w_doneP 60 (by decide) w
  have A1 : Hid (∀ w1, w.grownBy w1 none → Calls Tryz.prog 27 #[.pointer (some ⟨d, 0, none⟩), .string (newN dir), fv] w1 fun e w' => e = .returned (.int .i64 0) ∧ ∃ n' B', n' ≤ n + 1 ∧ LogAt w' base d mb n' x1 p dir cp segs op A B' ∧ Step2 w w' A B A B') := fun w1 hg => by
    have h1 := h.grown hg
    refine (hap w1 hg).mono ?_
    rintro e w' ⟨rfl, n', B', hn', hd', hst⟩
    rw [ex1] at hd' ⊢
    obtain ⟨B'', h2, h3⟩ := h1.write hd' hst
    exact ⟨rfl, n', B'', hn', h2, (Step2.grown A B hg).trans h3⟩
  have A2 : Hid (∀ n1 B1 w1, LogAt w1 base d mb n1 x1 p dir cp segs op A B1 → Calls Tryz.prog 53 #[.pointer (some ⟨d, 0, none⟩), .string (newN dir)] w1 fun e w' => e = .returned (.int .i64 60) ∧ ∃ n' B', n' ≤ n1 ∧ LogAt w' base d mb n' y p dir cp segs op A B' ∧ Step2 w1 w' A B1 A B') := fun n1 B1 w1 h1 => by
    refine (x_syncN base d mb n1 x1 B1 (newN dir) w1 h1.disk hok1 hnm).mono ?_
    rintro e w' ⟨rfl, n', B', hn', hd', hst⟩
    rw [ey] at hd' ⊢
    obtain ⟨B'', h2, h3⟩ := h1.write hd' hst
    exact ⟨rfl, n', B'', hn', h2, h3⟩
  have HDR : Hid (∀ w1 n1 x' B1, LogAt w1 base d mb n1 x' p dir cp segs op A B1 → Calls Tryz.prog 92 #[.pointer (some ⟨p, 0, none⟩)] w1 fun e w' => e = .returned (.string (newN dir)) ∧ w1 = w') := fun w1 n1 x' B1 h1 => by
    obtain ⟨a1, c1, hW, _⟩ := h1.wal
    exact w_draft p d dir cp _ _ w1 (by omega) hW
  have HCL : Hid (∀ w1 n1 x' B1, LogAt w1 base d mb n1 x' p dir cp segs op A B1 → w1.cell? ⟨p, 0, none⟩ = some (.pointer (some ⟨d, 0, none⟩))) := fun w1 n1 x' B1 h1 => by
    obtain ⟨a1, c1, hW, _⟩ := h1.wal
    exact hW.cells.1
  have HGD : ∀ W : World, W.grownBy W.drew none := fun W => gb_drew (World.grownBy.refl _ _)
  have HL : Hid (LogAt w base d mb n x p dir cp segs op A B) := h
  have c0 := HCL.out _ _ _ _ h
  have HLd : Hid (LogAt w.drew base d mb n x p dir cp segs op A B) := h.grown (HGD w)
  clear h hap
  go_enter Tryz.func100, Tryz.ntmps100
  go_wp2_with fail
  go_region_held3 (fun W => W.cell? ⟨p, 0, none⟩ = some (.pointer (some ⟨d, 0, none⟩))) (go_keep) (first
    | (go_at_call 92; refine (HDR.out _ _ _ _ HLd.out).mono ?_; rintro e w1 ⟨rfl, rfl⟩)
    | (go_at_call 27; refine (A1.out _ (HGD w)).mono ?_; rintro e w2 ⟨rfl, n1, B1, hn1, hL1, hS1⟩; have HL1 : Hid (LogAt w2 base d mb n1 x1 p dir cp segs op A B1) := hL1; have HS1 : Hid (Step2 w w2 A B A B1) := hS1; have c01 := HCL.out _ _ _ _ hL1; clear hL1 hS1)
    | (go_at_call 52; refine (HD0 _).mono ?_; rintro e w3 ⟨rfl, rfl⟩))
  have HL1d : Hid (LogAt w2.drew base d mb n1 x1 p dir cp segs op A B1) := HL1.out.grown (HGD w2)
  go_wp2_with fail
  refine wp_region_held_drew (S := fun W => W.cell? ⟨p, 0, none⟩ = some (.pointer (some ⟨d, 0, none⟩))) (by kernel_rfl) (by go_keep) (fun hHeld => ?_)
  refine wpAnyH_take (i := 0) (v := .pointer (some ⟨p, 0, none⟩)) rfl (by kernel_rfl) (by kernel_rfl) (by kernel_rfl) (fun _ _ _ h => h) (Or.inl ⟨by rfl, fun w hSw => ?_⟩) (by assumption) ?_
  · go_simp
  refine wpAnyH_take (i := 1) (v := .pointer (some ⟨p, 0, none⟩)) rfl (by kernel_rfl) (by kernel_rfl) (by kernel_rfl) (fun _ _ _ h => h) (Or.inl ⟨by rfl, fun w hSw => ?_⟩) (by assumption) ?_
  · go_simp
  refine wpAnyH_take (i := 2) (v := .pointer (some ⟨p, 0, none⟩)) rfl (by kernel_rfl) (by kernel_rfl) (by kernel_rfl) (fun _ _ _ h => h) (Or.inl ⟨by rfl, fun w hSw => ?_⟩) (by assumption) ?_
  · go_simp
  refine wpAnyH_take (i := 3) (v := .pointer (some ⟨d, 0, none⟩)) rfl (by kernel_rfl) (by kernel_rfl) (by kernel_rfl) (fun _ _ _ h => h) (Or.inl ⟨by rfl, fun w hSw => ?_⟩) (by assumption) ?_
  · go_simp
  refine wpAnyH_take (i := 4) (v := .pointer (some ⟨p, 0, none⟩)) rfl (by kernel_rfl) (by kernel_rfl) (by kernel_rfl) (fun _ _ _ h => h) (Or.inl ⟨by rfl, fun w hSw => ?_⟩) (by assumption) ?_
  · go_simp
  refine wpAnyH_ready (rs := [5]) (by kernel_rfl) (by simp) (AllReadyH.cons (i := 5) rfl (fun K hK => ?_) AllReadyH.nil)
  go_simp
  refine (HDR.out _ _ _ _ HL1d.out).mono ?_
  rintro e w1 ⟨rfl, rfl⟩
  refine hK.out _ _ (by go_keep) (fun hHeld => ?_)
  clear hK K
  refine wpAnyH_ready (rs := [6]) (by kernel_rfl) (by simp) (AllReadyH.cons (i := 6) rfl (fun K hK => ?_) AllReadyH.nil)
  go_simp
  refine (A2.out _ _ _ HL1d.out).mono ?_
  rintro e w4 ⟨rfl, n2, B2, hn2, hL2, hS2⟩
  have HL2 : Hid (LogAt w4 base d mb n2 y p dir cp segs op A B2) := hL2
  have HS2 : Hid (Step2 w w4 A B A B2) := (HS1.out.trans (Step2.grown A B1 (HGD w2))).trans hS2
  have c02 := HCL.out _ _ _ _ hL2
  clear hL2 hS2
  refine hK.out _ _ (by go_keep) (fun hHeld => ?_)
  clear hK K
  refine wpAnyH_ready (rs := [7]) (by kernel_rfl) (by simp) (AllReadyH.cons (i := 7) rfl (fun K hK => ?_) AllReadyH.nil)
  go_simp
  refine (HDP _).mono ?_
  rintro e w3 ⟨rfl, rfl⟩
  exact ⟨rfl, rfl, n2, B2, by omega, HL2.out, HS2.out⟩
set_option maxHeartbeats 8000000 in
theorem w_putP3 (base d mb n : Nat) (x : DSt) (p : Nat) (dir cp name : ByteArray) (segs : List Nat) (op : Nat) (A B : Nat → Prop) (fv : Value) (zs : List Int) (w : World) (hdir : dirB dir = true) (h : LogAt w base d mb n x p dir cp segs op A B) (hap : AppsTo w base d mb n x B (newN dir) fv zs) (hok : x.ok) (hn : n < 1048576) (hname : nameB name = true) (x1 : DSt) (ex1 : x.append (newN dir) zs = (0, x1)) (hok1 : x1.ok) (x2 : DSt) (ex2 : x1.sync (newN dir) = (0, x2)) (hok2 : x2.ok) (y : DSt) (ey : x2.rename (newN dir) name = (60, y)) :
    Calls Tryz.prog 100 #[.pointer (some ⟨p, 0, none⟩), .string name, fv] w fun e w' => e = .panicked (thrown 60) ∧ ∃ n' B', n' ≤ n + 2 ∧ LogAt w' base d mb n' y p dir cp segs op A B' ∧ Step2 w w' A B A B' := by
  have hds : dir.size ≤ 32 := by simp only [dirB, Bool.and_eq_true, decide_eq_true_eq] at hdir; exact hdir.2
  have hnm := new_name hdir
  have HD0 := fun w => w_done0 w
  have HDP := fun w => w_doneP 60 (by decide) w
  have A1 : Hid (∀ w1, w.grownBy w1 none → Calls Tryz.prog 27 #[.pointer (some ⟨d, 0, none⟩), .string (newN dir), fv] w1 fun e w' => e = .returned (.int .i64 0) ∧ ∃ n' B', n' ≤ n + 1 ∧ LogAt w' base d mb n' x1 p dir cp segs op A B' ∧ Step2 w w' A B A B') := fun w1 hg => by
    have h1 := h.grown hg
    refine (hap w1 hg).mono ?_
    rintro e w' ⟨rfl, n', B', hn', hd', hst⟩
    rw [ex1] at hd' ⊢
    obtain ⟨B'', h2, h3⟩ := h1.write hd' hst
    exact ⟨rfl, n', B'', hn', h2, (Step2.grown A B hg).trans h3⟩
  have A2 : Hid (∀ n1 B1 w1, LogAt w1 base d mb n1 x1 p dir cp segs op A B1 → Calls Tryz.prog 53 #[.pointer (some ⟨d, 0, none⟩), .string (newN dir)] w1 fun e w' => e = .returned (.int .i64 0) ∧ ∃ n' B', n' ≤ n1 ∧ LogAt w' base d mb n' x2 p dir cp segs op A B' ∧ Step2 w1 w' A B1 A B') := fun n1 B1 w1 h1 => by
    refine (x_syncN base d mb n1 x1 B1 (newN dir) w1 h1.disk hok1 hnm).mono ?_
    rintro e w' ⟨rfl, n', B', hn', hd', hst⟩
    rw [ex2] at hd' ⊢
    obtain ⟨B'', h2, h3⟩ := h1.write hd' hst
    exact ⟨rfl, n', B'', hn', h2, h3⟩
  have A3 : Hid (∀ n1 B1 w1, n1 ≤ 1048576 → LogAt w1 base d mb n1 x2 p dir cp segs op A B1 → Calls Tryz.prog 127 #[.pointer (some ⟨d, 0, none⟩), .string (newN dir), .string name] w1 fun e w' => e = .returned (.int .i64 60) ∧ ∃ n' B', n' ≤ n1 + 1 ∧ LogAt w' base d mb n' y p dir cp segs op A B' ∧ Step2 w1 w' A B1 A B') := fun n1 B1 w1 hn1 h1 => by
    refine (x_rename base d mb n1 x2 B1 (newN dir) name w1 h1.disk hok2 hnm hname hn1).mono ?_
    rintro e w' ⟨rfl, n', B', hn', hd', hst⟩
    rw [ey] at hd' ⊢
    obtain ⟨B'', h2, h3⟩ := h1.write hd' hst
    exact ⟨rfl, n', B'', hn', h2, h3⟩
  have HDR : Hid (∀ w1 n1 x' B1, LogAt w1 base d mb n1 x' p dir cp segs op A B1 → Calls Tryz.prog 92 #[.pointer (some ⟨p, 0, none⟩)] w1 fun e w' => e = .returned (.string (newN dir)) ∧ w1 = w') := fun w1 n1 x' B1 h1 => by
    obtain ⟨a1, c1, hW, _⟩ := h1.wal
    exact w_draft p d dir cp _ _ w1 (by omega) hW
  have HCL : Hid (∀ w1 n1 x' B1, LogAt w1 base d mb n1 x' p dir cp segs op A B1 → w1.cell? ⟨p, 0, none⟩ = some (.pointer (some ⟨d, 0, none⟩))) := fun w1 n1 x' B1 h1 => by
    obtain ⟨a1, c1, hW, _⟩ := h1.wal
    exact hW.cells.1
  have HGD : ∀ W : World, W.grownBy W.drew none := fun W => gb_drew (World.grownBy.refl _ _)
  have HL : Hid (LogAt w base d mb n x p dir cp segs op A B) := h
  have c0 := HCL.out _ _ _ _ h
  have HLd : Hid (LogAt w.drew base d mb n x p dir cp segs op A B) := h.grown (HGD w)
  clear h hap
  go_enter Tryz.func100, Tryz.ntmps100
  go_wp2_with fail
  go_region_held3 (fun W => W.cell? ⟨p, 0, none⟩ = some (.pointer (some ⟨d, 0, none⟩))) (go_keep) (first
    | (go_at_call 92; refine (HDR.out _ _ _ _ HLd.out).mono ?_; rintro e w1 ⟨rfl, rfl⟩)
    | (go_at_call 27; refine (A1.out _ (HGD w)).mono ?_; rintro e w2 ⟨rfl, n1, B1, hn1, hL1, hS1⟩; have HL1 : Hid (LogAt w2 base d mb n1 x1 p dir cp segs op A B1) := hL1; have HS1 : Hid (Step2 w w2 A B A B1) := hS1; have c01 := HCL.out _ _ _ _ hL1; clear hL1 hS1)
    | (go_at_call 52; refine (HD0 _).mono ?_; rintro e w3 ⟨rfl, rfl⟩))
  have HL1d : Hid (LogAt w2.drew base d mb n1 x1 p dir cp segs op A B1) := HL1.out.grown (HGD w2)
  go_wp2_with fail
  go_region_held3 (fun W => W.cell? ⟨p, 0, none⟩ = some (.pointer (some ⟨d, 0, none⟩))) (go_keep) (first
    | (go_at_call 92; refine (HDR.out _ _ _ _ HL1d.out).mono ?_; rintro e w1 ⟨rfl, rfl⟩)
    | (go_at_call 53; refine (A2.out _ _ _ HL1d.out).mono ?_; rintro e w4 ⟨rfl, n2, B2, hn2, hL2, hS2⟩; have HL2 : Hid (LogAt w4 base d mb n2 x2 p dir cp segs op A B2) := hL2; have HS2 : Hid (Step2 w w4 A B A B2) := (HS1.out.trans (Step2.grown A B1 (HGD w2))).trans hS2; have c02 := HCL.out _ _ _ _ hL2; clear hL2 hS2)
    | (go_at_call 52; refine (HD0 _).mono ?_; rintro e w3 ⟨rfl, rfl⟩))
  have HL2d : Hid (LogAt w4.drew base d mb n2 x2 p dir cp segs op A B2) := HL2.out.grown (HGD w4)
  go_wp2_with fail
  refine wp_region_held_drew (S := fun W => W.cell? ⟨p, 0, none⟩ = some (.pointer (some ⟨d, 0, none⟩))) (by kernel_rfl) (by go_keep) (fun hHeld => ?_)
  refine wpAnyH_take (i := 0) (v := .pointer (some ⟨p, 0, none⟩)) rfl (by kernel_rfl) (by kernel_rfl) (by kernel_rfl) (fun _ _ _ h => h) (Or.inl ⟨by rfl, fun w hSw => ?_⟩) (by assumption) ?_
  · go_simp
  refine wpAnyH_take (i := 1) (v := .pointer (some ⟨p, 0, none⟩)) rfl (by kernel_rfl) (by kernel_rfl) (by kernel_rfl) (fun _ _ _ h => h) (Or.inl ⟨by rfl, fun w hSw => ?_⟩) (by assumption) ?_
  · go_simp
  refine wpAnyH_take (i := 2) (v := .pointer (some ⟨p, 0, none⟩)) rfl (by kernel_rfl) (by kernel_rfl) (by kernel_rfl) (fun _ _ _ h => h) (Or.inl ⟨by rfl, fun w hSw => ?_⟩) (by assumption) ?_
  · go_simp
  refine wpAnyH_take (i := 3) (v := .pointer (some ⟨d, 0, none⟩)) rfl (by kernel_rfl) (by kernel_rfl) (by kernel_rfl) (fun _ _ _ h => h) (Or.inl ⟨by rfl, fun w hSw => ?_⟩) (by assumption) ?_
  · go_simp
  refine wpAnyH_take (i := 4) (v := .pointer (some ⟨p, 0, none⟩)) rfl (by kernel_rfl) (by kernel_rfl) (by kernel_rfl) (fun _ _ _ h => h) (Or.inl ⟨by rfl, fun w hSw => ?_⟩) (by assumption) ?_
  · go_simp
  refine wpAnyH_take (i := 6) (v := .string name) rfl (by kernel_rfl) (by kernel_rfl) (by kernel_rfl) (fun _ _ _ h => h) (Or.inl ⟨by rfl, fun w hSw => ?_⟩) (by assumption) ?_
  · go_simp
  refine wpAnyH_ready (rs := [5]) (by kernel_rfl) (by simp) (AllReadyH.cons (i := 5) rfl (fun K hK => ?_) AllReadyH.nil)
  go_simp
  refine (HDR.out _ _ _ _ HL2d.out).mono ?_
  rintro e w1 ⟨rfl, rfl⟩
  refine hK.out _ _ (by go_keep) (fun hHeld => ?_)
  clear hK K
  refine wpAnyH_ready (rs := [7]) (by kernel_rfl) (by simp) (AllReadyH.cons (i := 7) rfl (fun K hK => ?_) AllReadyH.nil)
  go_simp
  refine (A3.out _ _ _ (by omega) HL2d.out).mono ?_
  rintro e w6 ⟨rfl, n3, B3, hn3, hL3, hS3⟩
  have HL3 : Hid (LogAt w6 base d mb n3 y p dir cp segs op A B3) := hL3
  have HS3 : Hid (Step2 w w6 A B A B3) := (HS2.out.trans (Step2.grown A B2 (HGD w4))).trans hS3
  have c03 := HCL.out _ _ _ _ hL3
  clear hL3 hS3
  refine hK.out _ _ (by go_keep) (fun hHeld => ?_)
  clear hK K
  refine wpAnyH_ready (rs := [8]) (by kernel_rfl) (by simp) (AllReadyH.cons (i := 8) rfl (fun K hK => ?_) AllReadyH.nil)
  go_simp
  refine (HDP _).mono ?_
  rintro e w3 ⟨rfl, rfl⟩
  exact ⟨rfl, rfl, n3, B3, by omega, HL3.out, HS3.out⟩
end Go.Proofs.YtekejnjaiccnbaaGreatDoor

/- Package wal: cut, on a disk that may be armed. (Printed by mk_cutA.py.) -/
namespace Go.Proofs.YtekejnjaiccnbaaGreatDoor
open Go.RowKit Go.Maps Go.Sort
set_option linter.unusedVariables false
set_option maxRecDepth 20000

set_option maxHeartbeats 8000000 in
theorem w_cutG (base d mb n : Nat) (x : DSt) (p : Nat) (dir cp : ByteArray) (segs : List Nat) (op : Nat) (A B : Nat → Prop) (fv : Value) (w : World) (hdir : dirB dir = true) (ht : Tab w) (hf : Far A B) (h : LogAt w base d mb n x p dir cp segs op A B) (hop : op < 99999998) (X3 Z : DSt) (hZ : Z = delAll X3 ((if cp = ⟨#[]⟩ then [] else [cp]) ++ segs.map (segN dir))) (hpt : ∀ w1, w.grownBy w1 none → Calls Tryz.prog 100 #[.pointer (some ⟨p, 0, none⟩), .string (cpN dir op), fv] w1 fun e w' => e = .returned (.tuple #[]) ∧ ∃ n' B', n' ≤ n + 2 ∧ LogAt w' base d mb n' X3 p dir cp segs op A B' ∧ Step2 w1 w' A B A B') (hsg : segs.length ≤ 4194304) (hs8 : ∀ k ∈ segs, k < 100000000) (hcp : cp.size ≤ 64) (hdel : DelOk X3 ((if cp = ⟨#[]⟩ then [] else [cp]) ++ segs.map (segN dir))) (hb : base ≤ w.heap.size) :
    Calls Tryz.prog 58 #[.pointer (some ⟨p, 0, none⟩), fv] w fun e w' => e = .returned (.tuple #[]) ∧ CutEnd w base d mb (n + 2) Z A B w' := by
  have hds : dir.size ≤ 32 := by simp only [dirB, Bool.and_eq_true, decide_eq_true_eq] at hdir; exact hdir.2
  have HD0 := fun w => w_done0 w
  have HL : Hid (LogAt w base d mb n x p dir cp segs op A B) := h
  have HDEL : Hid (DelOk X3 ((if cp = ⟨#[]⟩ then [] else [cp]) ++ segs.map (segN dir))) := hdel
  have HS8 : Hid (∀ k ∈ segs, k < 100000000) := hs8
  have HT : Hid (Tab w) := ht
  have HF : Hid (Far A B) := hf
  have HDIR : Hid (dirB dir = true) := hdir
  obtain ⟨a, c, hW, _⟩ := h.wal
  have c4 := hW.cells.2.2.2.2
  have HCN : Hid (Calls Tryz.prog 99 #[.pointer (some ⟨p, 0, none⟩), .int .i64 (op : Int)] w fun e w' => e = .returned (.string (cpN dir op)) ∧ w.grownBy w' none) := w_cpoint p d dir cp _ _ op (by omega) w (by omega) ht hW
  have HPT : Hid (∀ w1, w.grownBy w1 none → Calls Tryz.prog 100 #[.pointer (some ⟨p, 0, none⟩), .string (cpN dir op), fv] w1 fun e w' => e = .returned (.tuple #[]) ∧ ∃ n' B', n' ≤ n + 2 ∧ LogAt w' base d mb n' X3 p dir cp segs op A B' ∧ Step2 w w' A B A B') := fun w1 hg => by
    refine (hpt w1 hg).mono ?_
    rintro e w' ⟨rfl, n', B', h1, h2, h3⟩
    exact ⟨rfl, n', B', h1, h2, (Step2.grown A B hg).trans h3⟩
  clear h hW hdel hs8 ht hf hdir hpt
  go_enter Tryz.func58, Tryz.ntmps58
  go_wp2_with fail
  refine HCN.out.mono ?_
  rintro e w1 ⟨rfl, hg1⟩
  go_wp2_with fail
  refine (HPT.out _ hg1).mono ?_
  rintro e w2 ⟨rfl, n2, B2, hn2, hL2, hS2⟩
  obtain ⟨a2, k2, hW2, _⟩ := hL2.wal
  have y4 := hW2.cells.2.2.2.2
  have z4 := hW2.frozen 4
  have hSO := hL2.setOpen (op + 1) ((op : Int) + 1) (by omega)
  obtain ⟨aa, ac, hC3⟩ := hSO.1.cutAt (hS2.trans hSO.2)
  have HC3 : Hid (CutAt w (w2.setCell ⟨p, 4, none⟩ (.int .i64 ((op : Int) + 1))) base d mb n2 X3 p dir cp segs (op + 1) A B B2 aa ac) := hC3
  obtain ⟨a3, k3, hW3, _⟩ := hSO.1.wal
  have y2 := hW3.cells.2.2.1
  clear hg1 hL2 hS2 hW2 hSO hW3 HCN HPT hC3
  go_upto_if 26 with fail
  go_cut [] from 5 (fun wc => ∃ n4 B4, n4 ≤ n + 2 ∧ CutAt w wc base d mb n4 (delAll X3 (if cp = ⟨#[]⟩ then [] else [cp])) p dir cp segs (op + 1) A B B4 aa ac)
  case first =>
    by_cases hcp0 : cp = ⟨#[]⟩
    · have q0 : cp.toList.isEmpty = true := by rw [str_none, hcp0]; rfl
      rw [q0, Bool.not_true]
      go_wp2_with fail
      go_meet
      exact ⟨n2, B2, hn2, by rw [if_pos hcp0]; exact HC3.out⟩
    · have q0 : cp.toList.isEmpty = false := by rw [str_none]; simp [hcp0]
      have hd := HDEL.out
      rw [if_neg hcp0] at hd
      obtain ⟨d1, d2, d3, _⟩ := hd
      have HDL : Hid (Calls Tryz.prog 91 #[.pointer (some ⟨d, 0, none⟩), .string cp] (w2.setCell ⟨p, 4, none⟩ (.int .i64 ((op : Int) + 1))).drew fun e w' => e = .returned (.int .i64 0) ∧ ∃ n' B', n' ≤ n2 ∧ CutAt w w' base d mb n' (X3.delete cp).2 p dir cp segs (op + 1) A B B' aa ac) := (HC3.out.grown (gb_drew (World.grownBy.refl _ _))).del d2 d3 d1
      obtain ⟨hW5, _⟩ := HC3.out.row
      have x0 := hW5.cells.1
      have x2 := hW5.cells.2.2.1
      have HX : Hid (delAll X3 [cp] = (X3.delete cp).2) := rfl
      rw [q0, Bool.not_false]
      clear d1 d2 d3 hW5
      go_wp2_with fail
      go_region_held3 (fun W => W.cell? ⟨p, 0, none⟩ = some (.pointer (some ⟨d, 0, none⟩)) ∧ W.cell? ⟨p, 2, none⟩ = some (.string cp)) (go_keep) (first
        | (go_at_call 91; refine HDL.out.mono ?_; rintro e w5 ⟨rfl, n5, B5, hn5, hC5⟩; have HC5 : Hid (CutAt w w5 base d mb n5 (X3.delete cp).2 p dir cp segs (op + 1) A B B5 aa ac) := hC5; obtain ⟨hW6, _⟩ := hC5.row; have x0' := hW6.cells.1; have x2' := hW6.cells.2.2.1; clear hC5 hW6)
        | (go_at_call 52; refine (HD0 _).mono ?_; rintro e w6 ⟨rfl, rfl⟩))
      all_goals (go_wp2_with fail; go_meet)
      all_goals exact ⟨n5, B5, by omega, by rw [if_neg hcp0, HX.out]; exact HC5.out⟩
  case rest =>
    obtain ⟨n4, B4, hn4, hC4⟩ := hcut
    obtain ⟨hW5, hr5, hc5, ha5⟩ := hC4.row
    have x2 := hW5.cells.2.2.1
    have z2 := hW5.frozen 2
    have HC5 : Hid (CutAt w (wc.setCell ⟨p, 2, none⟩ (.string (cpN dir op))) base d mb n4 (delAll X3 (if cp = ⟨#[]⟩ then [] else [cp])) p dir (cpN dir op) segs (op + 1) A B B4 aa ac) := hC4.set ((hW5.set 2 _).congr (five rfl rfl rfl rfl rfl)) hr5 hc5 ha5
    have HDEL2 : Hid (DelOk (delAll X3 (if cp = ⟨#[]⟩ then [] else [cp])) (segs.map (segN dir))) := DelOk.app _ _ _ HDEL.out
    have HCX : Hid (Z = delAll (delAll X3 (if cp = ⟨#[]⟩ then [] else [cp])) (segs.map (segN dir))) := by
      show _ = _
      rw [hZ]
      exact delAll_app _ _ _
    obtain ⟨X, eX⟩ : ∃ X, X = delAll X3 (if cp = ⟨#[]⟩ then [] else [cp]) := ⟨_, rfl⟩
    rw [← eX] at HC5 HDEL2 HCX
    clear hC4 hW5 hr5 hc5 ha5 eX HDEL HC3
    go_wp2_with fail
    go_loopw [41] (fun t41 wr => ∃ i n6 B6 a6 k6, i ≤ segs.length ∧ n6 ≤ n + 2 ∧ CutAt w wr base d mb n6 (delAll X ((segs.take i).map (segN dir))) p dir (cpN dir op) (segs.drop i) (op + 1) A B B6 a6 k6) (fun _ wr => leftN wr p)
    case atStart => exact ⟨0, n4, B4, aa, ac, Nat.zero_le _, hn4, by simpa [delAll] using HC5.out⟩
    case round =>
      obtain ⟨i, n6, B6, a6, k6, hi, hn6, hC6⟩ := hrel
      have HC6 : Hid (CutAt w wr base d mb n6 (delAll X ((segs.take i).map (segN dir))) p dir (cpN dir op) (segs.drop i) (op + 1) A B B6 a6 k6) := hC6
      obtain ⟨hW6, hr6, hc6, ha6⟩ := hC6.row
      have x3 := hW6.cells.2.2.2.1
      clear HC5
      by_cases hlt : i < segs.length
      · obtain ⟨k, hk⟩ : ∃ k, segs[i]? = some k := ⟨_, List.getElem?_eq_getElem hlt⟩
        have hdrop : segs.drop i = k :: segs.drop (i + 1) := by
          rw [List.drop_eq_getElem_cons hlt]
          congr 1
          rw [List.getElem?_eq_getElem hlt] at hk
          exact Option.some.inj hk
        have htk : (segs.take (i + 1)).map (segN dir) = (segs.take i).map (segN dir) ++ [segN dir k] := by rw [List.take_add_one, hk]; simp
        have HTK : Hid (delAll X ((segs.take (i + 1)).map (segN dir)) = ((delAll X ((segs.take i).map (segN dir))).delete (segN dir k)).2) := by show _ = _; rw [htk, delAll_snoc]
        have hdo : DelOk (delAll X ((segs.take i).map (segN dir))) ((segs.drop i).map (segN dir)) := by
          refine DelOk.app _ _ _ ?_
          rw [← List.map_append, List.take_append_drop]
          exact HDEL2.out
        rw [hdrop] at hdo
        obtain ⟨d1, d2, d3, _⟩ := hdo
        have hk8 := HS8.out k (List.mem_of_getElem? hk)
        obtain ⟨R, eR⟩ : ∃ R, R = (segs.drop (i + 1)).length := ⟨_, rfl⟩
        have hlen6 : (segs.drop i).length = R + 1 := by rw [hdrop, eR]; rfl
        obtain ⟨b, off, rfl, hcell⟩ := nI_cell hr6 (l := segs.drop i) (i := 0) (k := k) (by rw [hdrop]; rfl)
        rw [hlen6] at x3 hc6
        have hR : R ≤ 4194304 := by rw [eR, List.length_drop]; omega
        have hsl : ∀ W : World, (Instr.slice 75 (.slice (some ⟨b, off, none⟩) (R + 1) k6) (some (.int .i64 1)) none none).run Tryz.prog W = .ok (.slice (some (if k6 = 1 then ⟨b, off, none⟩ else ⟨b, off + 1, none⟩)) R (k6 - 1)) W := fun W => tail75n W b off R k6 hc6
        have HTr := (HT.out.step HC6.out.step HF.out).1
        have HGD : Hid (wr.grownBy wr.drew none) := gb_drew (World.grownBy.refl _ _)
        have HSG : Hid (Calls Tryz.prog 54 #[.pointer (some ⟨p, 0, none⟩), .int .i64 (k : Int)] wr.drew fun e w' => e = .returned (.string (segN dir k)) ∧ wr.drew.grownBy w' none) := w_segment p d dir (cpN dir op) _ _ k hk8 _ (by omega) (HTr.grown HGD.out) (hW6.kept HGD.out (by simp))
        have HDL : Hid (∀ w1, wr.grownBy w1 none → Calls Tryz.prog 91 #[.pointer (some ⟨d, 0, none⟩), .string (segN dir k)] w1 fun e w' => e = .returned (.int .i64 0) ∧ ∃ n' B', n' ≤ n6 ∧ CutAt w w' base d mb n' (delAll X ((segs.take (i + 1)).map (segN dir))) p dir (cpN dir op) (segs.drop i) (op + 1) A B B' (some ⟨b, off, none⟩) k6) := fun w1 hg => by
          rw [HTK.out]
          exact (HC6.out.grown hg).del d2 d3 d1
        have x0 := hW6.cells.1
        have HW6 : Hid (WRow wr p d dir (cpN dir op) (.slice (some ⟨b, off, none⟩) (segs.drop i).length k6) ((op + 1 : Nat) : Int)) := hW6
        have hdl : segs.drop i = k :: segs.drop (i + 1) := hdrop
        have HX3 : Hid (∀ w5 n5 B5, CutAt w w5 base d mb n5 (delAll X ((segs.take (i + 1)).map (segN dir))) p dir (cpN dir op) (segs.drop i) (op + 1) A B B5 (some ⟨b, off, none⟩) k6 → w5.cell? ⟨p, 0, none⟩ = some (.pointer (some ⟨d, 0, none⟩)) ∧ w5.cell? ⟨p, 3, none⟩ = some (.slice (some ⟨b, off, none⟩) (R + 1) k6) ∧ w5.cell? ⟨b, off, none⟩ = some (.int .i64 (k : Int)) ∧ w5.frozen? ⟨p, 3, none⟩ = false) := fun w5 n5 B5 h5 => by
          obtain ⟨hW7, hr7, hc7, ha7⟩ := h5.row
          obtain ⟨b', off', e', hcell'⟩ := nI_cell hr7 (l := segs.drop i) (i := 0) (k := k) (by rw [hdl]; rfl)
          cases e'
          simp only [Nat.add_zero] at hcell'
          rw [← hlen6]
          exact ⟨hW7.cells.1, hW7.cells.2.2.2.1, hcell', hW7.frozen 3⟩
        have HFIN : Hid (∀ w5 n5 B5, CutAt w w5 base d mb n5 (delAll X ((segs.take (i + 1)).map (segN dir))) p dir (cpN dir op) (segs.drop i) (op + 1) A B B5 (some ⟨b, off, none⟩) k6 → CutAt w (w5.setCell ⟨p, 3, none⟩ (.slice (some (if k6 = 1 then ⟨b, off, none⟩ else ⟨b, off + 1, none⟩)) R (k6 - 1))) base d mb n5 (delAll X ((segs.take (i + 1)).map (segN dir))) p dir (cpN dir op) (segs.drop (i + 1)) (op + 1) A B B5 (some (if k6 = 1 then ⟨b, off, none⟩ else ⟨b, off + 1, none⟩)) (k6 - 1)) := fun w5 n5 B5 h5 => by
          obtain ⟨hW7, hr7, hc7, ha7⟩ := h5.row
          have hr8 : SRd intE w5 (some ⟨b, off, none⟩) ((k : Int) :: nI (segs.drop (i + 1))) := by
            have e : nI (segs.drop i) = (k : Int) :: nI (segs.drop (i + 1)) := by rw [hdl]; rfl
            rw [← e]
            exact hr7
          refine h5.set ?_ (srd_tail hr8 k6 (by rw [nI_len, ← eR]; exact hc6)) (by rw [← eR]; omega) (fun y hy => ?_)
          · have := hW7.set 3 (.slice (some (if k6 = 1 then ⟨b, off, none⟩ else ⟨b, off + 1, none⟩)) R (k6 - 1))
            rw [← eR]
            exact this.congr (five rfl rfl rfl rfl rfl)
          · have h9 := ha7 ⟨b, off, none⟩ rfl
            have e := Option.some.inj hy
            subst e
            split
            · exact h9
            · exact ⟨h9.1, h9.2.1, h9.2.2.1, rfl⟩
        have HLF : Hid (leftN wr p = R + 1) := by show _ = _; rw [HC6.out.left, hlen6]
        have HERR : Hid (R = (segs.drop (i + 1)).length) := eR
        simp only [Nat.add_zero] at hcell
        clear hC6 hW6 hr6 ha6 hk hdrop hdl htk d1 d2 d3 hk8 HTr eR hlen6 HTK
        go_wp2_with fail
        go_region_held3 (fun W => W.cell? ⟨p, 0, none⟩ = some (.pointer (some ⟨d, 0, none⟩)) ∧ W.cell? ⟨p, 3, none⟩ = some (.slice (some ⟨b, off, none⟩) (R + 1) k6) ∧ W.cell? ⟨b, off, none⟩ = some (.int .i64 (k : Int))) (go_keep) (first
          | (go_at_call 54; refine HSG.out.mono ?_; rintro e w1 ⟨rfl, hg1⟩; have HG1 : Hid (wr.grownBy w1 none) := HGD.out.trans hg1; have x0' : w1.cell? ⟨p, 0, none⟩ = some (.pointer (some ⟨d, 0, none⟩)) := HG1.out.cell x0 (by simp); have x3' : w1.cell? ⟨p, 3, none⟩ = some (.slice (some ⟨b, off, none⟩) (R + 1) k6) := HG1.out.cell x3 (by simp); have xc' : w1.cell? ⟨b, off, none⟩ = some (.int .i64 (k : Int)) := HG1.out.cell hcell (by simp); clear hg1)
          | (go_at_call 91; refine (HDL.out _ HG1.out).mono ?_; rintro e w5 ⟨rfl, n5, B5, hn5, hC5⟩; have HC5 : Hid (CutAt w w5 base d mb n5 (delAll X ((segs.take (i + 1)).map (segN dir))) p dir (cpN dir op) (segs.drop i) (op + 1) A B B5 (some ⟨b, off, none⟩) k6) := hC5; obtain ⟨x0'', x3'', xc'', z3''⟩ := HX3.out _ _ _ hC5; clear hC5)
          | (go_at_call 52; refine (HD0 _).mono ?_; rintro e w6 ⟨rfl, rfl⟩))
        go_wp2
        go_roundw
        case rel => exact ⟨i + 1, n5, B5, _, _, by omega, by omega, HFIN.out _ _ _ HC5.out⟩
        case measure =>
          rw [(HFIN.out _ _ _ HC5.out).left, HLF.out, ← HERR.out]
          omega
      · have hii : i = segs.length := by omega
        have hl0 : (segs.drop i).length = 0 := by rw [List.length_drop]; omega
        rw [hl0] at x3
        have HFIN : Hid (CutEnd w base d mb (n + 2) Z A B wr) := by
          refine ⟨n6, B6, hn6, ?_, HC6.out.step, HC6.out.apart, HC6.out.ltB⟩
          rw [HCX.out]
          have := HC6.out.disk
          rw [hii, List.take_length] at this
          exact this
        clear hC6 hW6 hr6 hc6 ha6 hii hl0
        go_wp2
        go_end0
        exact ⟨rfl, HFIN.out⟩
end Go.Proofs.YtekejnjaiccnbaaGreatDoor

/- Package wal: cut, where the power goes at a deletion. (Printed by mk_cutA.py.) -/
namespace Go.Proofs.YtekejnjaiccnbaaGreatDoor
open Go.RowKit Go.Maps Go.Sort
set_option linter.unusedVariables false
set_option maxRecDepth 20000

set_option maxHeartbeats 8000000 in
theorem w_cutPD (base d mb n : Nat) (x : DSt) (p : Nat) (dir cp : ByteArray) (segs : List Nat) (op : Nat) (A B : Nat → Prop) (fv : Value) (w : World) (hdir : dirB dir = true) (ht : Tab w) (hf : Far A B) (h : LogAt w base d mb n x p dir cp segs op A B) (hop : op < 99999998) (X3 : DSt) (hpt : ∀ w1, w.grownBy w1 none → Calls Tryz.prog 100 #[.pointer (some ⟨p, 0, none⟩), .string (cpN dir op), fv] w1 fun e w' => e = .returned (.tuple #[]) ∧ ∃ n' B', n' ≤ n + 2 ∧ LogAt w' base d mb n' X3 p dir cp segs op A B' ∧ Step2 w1 w' A B A B') (hsg : segs.length ≤ 4194304) (hs8 : ∀ k ∈ segs, k < 100000000) (hcp : cp.size ≤ 64) (j kj : Nat) (hj : segs[j]? = some kj) (hdel : DelOk X3 ((if cp = ⟨#[]⟩ then [] else [cp]) ++ (segs.take j).map (segN dir))) (y : DSt) (hy : (delAll X3 ((if cp = ⟨#[]⟩ then [] else [cp]) ++ (segs.take j).map (segN dir))).delete (segN dir kj) = (60, y)) (hyo : (delAll X3 ((if cp = ⟨#[]⟩ then [] else [cp]) ++ (segs.take j).map (segN dir))).ok) (hkn : nameB (segN dir kj) = true) (hb : base ≤ w.heap.size) :
    Calls Tryz.prog 58 #[.pointer (some ⟨p, 0, none⟩), fv] w fun e w' => e = .panicked (thrown 60) ∧ CutEnd w base d mb (n + 2) y A B w' := by
  have hds : dir.size ≤ 32 := by simp only [dirB, Bool.and_eq_true, decide_eq_true_eq] at hdir; exact hdir.2
  have HD0 := fun w => w_done0 w
  have HL : Hid (LogAt w base d mb n x p dir cp segs op A B) := h
  have HDEL : Hid (DelOk X3 ((if cp = ⟨#[]⟩ then [] else [cp]) ++ (segs.take j).map (segN dir))) := hdel
  have HDP := fun w => w_doneP 60 (by decide) w
  have HY : Hid ((delAll X3 ((if cp = ⟨#[]⟩ then [] else [cp]) ++ (segs.take j).map (segN dir))).delete (segN dir kj) = (60, y)) := hy
  have HYO : Hid (delAll X3 ((if cp = ⟨#[]⟩ then [] else [cp]) ++ (segs.take j).map (segN dir))).ok := hyo
  have HJ : Hid (segs[j]? = some kj) := hj
  have hjl : j < segs.length := (List.getElem?_eq_some_iff.1 hj).1
  clear hy hyo hj
  have HS8 : Hid (∀ k ∈ segs, k < 100000000) := hs8
  have HT : Hid (Tab w) := ht
  have HF : Hid (Far A B) := hf
  have HDIR : Hid (dirB dir = true) := hdir
  obtain ⟨a, c, hW, _⟩ := h.wal
  have c4 := hW.cells.2.2.2.2
  have HCN : Hid (Calls Tryz.prog 99 #[.pointer (some ⟨p, 0, none⟩), .int .i64 (op : Int)] w fun e w' => e = .returned (.string (cpN dir op)) ∧ w.grownBy w' none) := w_cpoint p d dir cp _ _ op (by omega) w (by omega) ht hW
  have HPT : Hid (∀ w1, w.grownBy w1 none → Calls Tryz.prog 100 #[.pointer (some ⟨p, 0, none⟩), .string (cpN dir op), fv] w1 fun e w' => e = .returned (.tuple #[]) ∧ ∃ n' B', n' ≤ n + 2 ∧ LogAt w' base d mb n' X3 p dir cp segs op A B' ∧ Step2 w w' A B A B') := fun w1 hg => by
    refine (hpt w1 hg).mono ?_
    rintro e w' ⟨rfl, n', B', h1, h2, h3⟩
    exact ⟨rfl, n', B', h1, h2, (Step2.grown A B hg).trans h3⟩
  clear h hW hdel hs8 ht hf hdir hpt
  go_enter Tryz.func58, Tryz.ntmps58
  go_wp2_with fail
  refine HCN.out.mono ?_
  rintro e w1 ⟨rfl, hg1⟩
  go_wp2_with fail
  refine (HPT.out _ hg1).mono ?_
  rintro e w2 ⟨rfl, n2, B2, hn2, hL2, hS2⟩
  obtain ⟨a2, k2, hW2, _⟩ := hL2.wal
  have y4 := hW2.cells.2.2.2.2
  have z4 := hW2.frozen 4
  have hSO := hL2.setOpen (op + 1) ((op : Int) + 1) (by omega)
  obtain ⟨aa, ac, hC3⟩ := hSO.1.cutAt (hS2.trans hSO.2)
  have HC3 : Hid (CutAt w (w2.setCell ⟨p, 4, none⟩ (.int .i64 ((op : Int) + 1))) base d mb n2 X3 p dir cp segs (op + 1) A B B2 aa ac) := hC3
  obtain ⟨a3, k3, hW3, _⟩ := hSO.1.wal
  have y2 := hW3.cells.2.2.1
  clear hg1 hL2 hS2 hW2 hSO hW3 HCN HPT hC3
  go_upto_if 26 with fail
  go_cut [] from 5 (fun wc => ∃ n4 B4, n4 ≤ n + 2 ∧ CutAt w wc base d mb n4 (delAll X3 (if cp = ⟨#[]⟩ then [] else [cp])) p dir cp segs (op + 1) A B B4 aa ac)
  case first =>
    by_cases hcp0 : cp = ⟨#[]⟩
    · have q0 : cp.toList.isEmpty = true := by rw [str_none, hcp0]; rfl
      rw [q0, Bool.not_true]
      go_wp2_with fail
      go_meet
      exact ⟨n2, B2, hn2, by rw [if_pos hcp0]; exact HC3.out⟩
    · have q0 : cp.toList.isEmpty = false := by rw [str_none]; simp [hcp0]
      have hd := HDEL.out
      rw [if_neg hcp0] at hd
      obtain ⟨d1, d2, d3, _⟩ := hd
      have HDL : Hid (Calls Tryz.prog 91 #[.pointer (some ⟨d, 0, none⟩), .string cp] (w2.setCell ⟨p, 4, none⟩ (.int .i64 ((op : Int) + 1))).drew fun e w' => e = .returned (.int .i64 0) ∧ ∃ n' B', n' ≤ n2 ∧ CutAt w w' base d mb n' (X3.delete cp).2 p dir cp segs (op + 1) A B B' aa ac) := (HC3.out.grown (gb_drew (World.grownBy.refl _ _))).del d2 d3 d1
      obtain ⟨hW5, _⟩ := HC3.out.row
      have x0 := hW5.cells.1
      have x2 := hW5.cells.2.2.1
      have HX : Hid (delAll X3 [cp] = (X3.delete cp).2) := rfl
      rw [q0, Bool.not_false]
      clear d1 d2 d3 hW5
      go_wp2_with fail
      go_region_held3 (fun W => W.cell? ⟨p, 0, none⟩ = some (.pointer (some ⟨d, 0, none⟩)) ∧ W.cell? ⟨p, 2, none⟩ = some (.string cp)) (go_keep) (first
        | (go_at_call 91; refine HDL.out.mono ?_; rintro e w5 ⟨rfl, n5, B5, hn5, hC5⟩; have HC5 : Hid (CutAt w w5 base d mb n5 (X3.delete cp).2 p dir cp segs (op + 1) A B B5 aa ac) := hC5; obtain ⟨hW6, _⟩ := hC5.row; have x0' := hW6.cells.1; have x2' := hW6.cells.2.2.1; clear hC5 hW6)
        | (go_at_call 52; refine (HD0 _).mono ?_; rintro e w6 ⟨rfl, rfl⟩))
      all_goals (go_wp2_with fail; go_meet)
      all_goals exact ⟨n5, B5, by omega, by rw [if_neg hcp0, HX.out]; exact HC5.out⟩
  case rest =>
    obtain ⟨n4, B4, hn4, hC4⟩ := hcut
    obtain ⟨hW5, hr5, hc5, ha5⟩ := hC4.row
    have x2 := hW5.cells.2.2.1
    have z2 := hW5.frozen 2
    have HC5 : Hid (CutAt w (wc.setCell ⟨p, 2, none⟩ (.string (cpN dir op))) base d mb n4 (delAll X3 (if cp = ⟨#[]⟩ then [] else [cp])) p dir (cpN dir op) segs (op + 1) A B B4 aa ac) := hC4.set ((hW5.set 2 _).congr (five rfl rfl rfl rfl rfl)) hr5 hc5 ha5
    have HDEL2 : Hid (DelOk (delAll X3 (if cp = ⟨#[]⟩ then [] else [cp])) ((segs.take j).map (segN dir))) := DelOk.app _ _ _ HDEL.out
    rw [delAll_app] at HY HYO
    obtain ⟨X, eX⟩ : ∃ X, X = delAll X3 (if cp = ⟨#[]⟩ then [] else [cp]) := ⟨_, rfl⟩
    rw [← eX] at HC5 HDEL2 HY HYO
    clear hC4 hW5 hr5 hc5 ha5 eX HDEL HC3
    go_wp2_with fail
    go_loopw [41] (fun t41 wr => ∃ i n6 B6 a6 k6, i ≤ j ∧ n6 ≤ n + 2 ∧ CutAt w wr base d mb n6 (delAll X ((segs.take i).map (segN dir))) p dir (cpN dir op) (segs.drop i) (op + 1) A B B6 a6 k6) (fun _ wr => leftN wr p)
    case atStart => exact ⟨0, n4, B4, aa, ac, Nat.zero_le _, hn4, by simpa [delAll] using HC5.out⟩
    case round =>
      obtain ⟨i, n6, B6, a6, k6, hi, hn6, hC6⟩ := hrel
      have HC6 : Hid (CutAt w wr base d mb n6 (delAll X ((segs.take i).map (segN dir))) p dir (cpN dir op) (segs.drop i) (op + 1) A B B6 a6 k6) := hC6
      obtain ⟨hW6, hr6, hc6, ha6⟩ := hC6.row
      have x3 := hW6.cells.2.2.2.1
      clear HC5
      have hlt : i < segs.length := by omega
      by_cases hij : i < j
      · obtain ⟨k, hk⟩ : ∃ k, segs[i]? = some k := ⟨_, List.getElem?_eq_getElem hlt⟩
        have hdrop : segs.drop i = k :: segs.drop (i + 1) := by
          rw [List.drop_eq_getElem_cons hlt]
          congr 1
          rw [List.getElem?_eq_getElem hlt] at hk
          exact Option.some.inj hk
        have htk : (segs.take (i + 1)).map (segN dir) = (segs.take i).map (segN dir) ++ [segN dir k] := by rw [List.take_add_one, hk]; simp
        have HTK : Hid (delAll X ((segs.take (i + 1)).map (segN dir)) = ((delAll X ((segs.take i).map (segN dir))).delete (segN dir k)).2) := by show _ = _; rw [htk, delAll_snoc]
        have hdo : DelOk (delAll X ((segs.take i).map (segN dir))) (segN dir k :: ((segs.take j).drop (i + 1)).map (segN dir)) := by
          refine DelOk.app _ _ _ ?_
          have e1 : segs.take i ++ (k :: (segs.take j).drop (i + 1)) = segs.take j := by
            have h1 : i < (segs.take j).length := by rw [List.length_take]; omega
            have h2 : (segs.take j)[i]? = some k := by rw [List.getElem?_take_of_lt hij]; exact hk
            have h3 : (segs.take j).take i = segs.take i := by rw [List.take_take, Nat.min_eq_left (by omega)]
            have h4 : (segs.take j).drop i = k :: (segs.take j).drop (i + 1) := by
              rw [List.drop_eq_getElem_cons h1]
              congr 1
              rw [List.getElem?_eq_getElem h1] at h2
              exact Option.some.inj h2
            rw [← h4, ← h3, List.take_append_drop]
          rw [← List.map_cons, ← List.map_append, e1]
          exact HDEL2.out
        obtain ⟨d1, d2, d3, _⟩ := hdo
        have hk8 := HS8.out k (List.mem_of_getElem? hk)
        obtain ⟨R, eR⟩ : ∃ R, R = (segs.drop (i + 1)).length := ⟨_, rfl⟩
        have hlen6 : (segs.drop i).length = R + 1 := by rw [hdrop, eR]; rfl
        obtain ⟨b, off, rfl, hcell⟩ := nI_cell hr6 (l := segs.drop i) (i := 0) (k := k) (by rw [hdrop]; rfl)
        rw [hlen6] at x3 hc6
        have hR : R ≤ 4194304 := by rw [eR, List.length_drop]; omega
        have hsl : ∀ W : World, (Instr.slice 75 (.slice (some ⟨b, off, none⟩) (R + 1) k6) (some (.int .i64 1)) none none).run Tryz.prog W = .ok (.slice (some (if k6 = 1 then ⟨b, off, none⟩ else ⟨b, off + 1, none⟩)) R (k6 - 1)) W := fun W => tail75n W b off R k6 hc6
        have HTr := (HT.out.step HC6.out.step HF.out).1
        have HGD : Hid (wr.grownBy wr.drew none) := gb_drew (World.grownBy.refl _ _)
        have HSG : Hid (Calls Tryz.prog 54 #[.pointer (some ⟨p, 0, none⟩), .int .i64 (k : Int)] wr.drew fun e w' => e = .returned (.string (segN dir k)) ∧ wr.drew.grownBy w' none) := w_segment p d dir (cpN dir op) _ _ k hk8 _ (by omega) (HTr.grown HGD.out) (hW6.kept HGD.out (by simp))
        have HDL : Hid (∀ w1, wr.grownBy w1 none → Calls Tryz.prog 91 #[.pointer (some ⟨d, 0, none⟩), .string (segN dir k)] w1 fun e w' => e = .returned (.int .i64 0) ∧ ∃ n' B', n' ≤ n6 ∧ CutAt w w' base d mb n' (delAll X ((segs.take (i + 1)).map (segN dir))) p dir (cpN dir op) (segs.drop i) (op + 1) A B B' (some ⟨b, off, none⟩) k6) := fun w1 hg => by
          rw [HTK.out]
          exact (HC6.out.grown hg).del d2 d3 d1
        have x0 := hW6.cells.1
        have HW6 : Hid (WRow wr p d dir (cpN dir op) (.slice (some ⟨b, off, none⟩) (segs.drop i).length k6) ((op + 1 : Nat) : Int)) := hW6
        have hdl : segs.drop i = k :: segs.drop (i + 1) := hdrop
        have HX3 : Hid (∀ w5 n5 B5, CutAt w w5 base d mb n5 (delAll X ((segs.take (i + 1)).map (segN dir))) p dir (cpN dir op) (segs.drop i) (op + 1) A B B5 (some ⟨b, off, none⟩) k6 → w5.cell? ⟨p, 0, none⟩ = some (.pointer (some ⟨d, 0, none⟩)) ∧ w5.cell? ⟨p, 3, none⟩ = some (.slice (some ⟨b, off, none⟩) (R + 1) k6) ∧ w5.cell? ⟨b, off, none⟩ = some (.int .i64 (k : Int)) ∧ w5.frozen? ⟨p, 3, none⟩ = false) := fun w5 n5 B5 h5 => by
          obtain ⟨hW7, hr7, hc7, ha7⟩ := h5.row
          obtain ⟨b', off', e', hcell'⟩ := nI_cell hr7 (l := segs.drop i) (i := 0) (k := k) (by rw [hdl]; rfl)
          cases e'
          simp only [Nat.add_zero] at hcell'
          rw [← hlen6]
          exact ⟨hW7.cells.1, hW7.cells.2.2.2.1, hcell', hW7.frozen 3⟩
        have HFIN : Hid (∀ w5 n5 B5, CutAt w w5 base d mb n5 (delAll X ((segs.take (i + 1)).map (segN dir))) p dir (cpN dir op) (segs.drop i) (op + 1) A B B5 (some ⟨b, off, none⟩) k6 → CutAt w (w5.setCell ⟨p, 3, none⟩ (.slice (some (if k6 = 1 then ⟨b, off, none⟩ else ⟨b, off + 1, none⟩)) R (k6 - 1))) base d mb n5 (delAll X ((segs.take (i + 1)).map (segN dir))) p dir (cpN dir op) (segs.drop (i + 1)) (op + 1) A B B5 (some (if k6 = 1 then ⟨b, off, none⟩ else ⟨b, off + 1, none⟩)) (k6 - 1)) := fun w5 n5 B5 h5 => by
          obtain ⟨hW7, hr7, hc7, ha7⟩ := h5.row
          have hr8 : SRd intE w5 (some ⟨b, off, none⟩) ((k : Int) :: nI (segs.drop (i + 1))) := by
            have e : nI (segs.drop i) = (k : Int) :: nI (segs.drop (i + 1)) := by rw [hdl]; rfl
            rw [← e]
            exact hr7
          refine h5.set ?_ (srd_tail hr8 k6 (by rw [nI_len, ← eR]; exact hc6)) (by rw [← eR]; omega) (fun y hy => ?_)
          · have := hW7.set 3 (.slice (some (if k6 = 1 then ⟨b, off, none⟩ else ⟨b, off + 1, none⟩)) R (k6 - 1))
            rw [← eR]
            exact this.congr (five rfl rfl rfl rfl rfl)
          · have h9 := ha7 ⟨b, off, none⟩ rfl
            have e := Option.some.inj hy
            subst e
            split
            · exact h9
            · exact ⟨h9.1, h9.2.1, h9.2.2.1, rfl⟩
        have HLF : Hid (leftN wr p = R + 1) := by show _ = _; rw [HC6.out.left, hlen6]
        have HERR : Hid (R = (segs.drop (i + 1)).length) := eR
        simp only [Nat.add_zero] at hcell
        clear hC6 hW6 hr6 ha6 hk hdrop hdl htk d1 d2 d3 hk8 HTr eR hlen6 HTK
        go_wp2_with fail
        go_region_held3 (fun W => W.cell? ⟨p, 0, none⟩ = some (.pointer (some ⟨d, 0, none⟩)) ∧ W.cell? ⟨p, 3, none⟩ = some (.slice (some ⟨b, off, none⟩) (R + 1) k6) ∧ W.cell? ⟨b, off, none⟩ = some (.int .i64 (k : Int))) (go_keep) (first
          | (go_at_call 54; refine HSG.out.mono ?_; rintro e w1 ⟨rfl, hg1⟩; have HG1 : Hid (wr.grownBy w1 none) := HGD.out.trans hg1; have x0' : w1.cell? ⟨p, 0, none⟩ = some (.pointer (some ⟨d, 0, none⟩)) := HG1.out.cell x0 (by simp); have x3' : w1.cell? ⟨p, 3, none⟩ = some (.slice (some ⟨b, off, none⟩) (R + 1) k6) := HG1.out.cell x3 (by simp); have xc' : w1.cell? ⟨b, off, none⟩ = some (.int .i64 (k : Int)) := HG1.out.cell hcell (by simp); clear hg1)
          | (go_at_call 91; refine (HDL.out _ HG1.out).mono ?_; rintro e w5 ⟨rfl, n5, B5, hn5, hC5⟩; have HC5 : Hid (CutAt w w5 base d mb n5 (delAll X ((segs.take (i + 1)).map (segN dir))) p dir (cpN dir op) (segs.drop i) (op + 1) A B B5 (some ⟨b, off, none⟩) k6) := hC5; obtain ⟨x0'', x3'', xc'', z3''⟩ := HX3.out _ _ _ hC5; clear hC5)
          | (go_at_call 52; refine (HD0 _).mono ?_; rintro e w6 ⟨rfl, rfl⟩))
        go_wp2
        go_roundw
        case rel => exact ⟨i + 1, n5, B5, _, _, by omega, by omega, HFIN.out _ _ _ HC5.out⟩
        case measure =>
          rw [(HFIN.out _ _ _ HC5.out).left, HLF.out, ← HERR.out]
          omega
      · have hij2 : i = j := by omega
        subst hij2
        obtain ⟨k, ekj⟩ : ∃ k, k = kj := ⟨_, rfl⟩
        have hk : segs[i]? = some k := by rw [ekj]; exact HJ.out
        have EKJ : Hid (k = kj) := ekj
        clear ekj
        have hdrop : segs.drop i = k :: segs.drop (i + 1) := by
          rw [List.drop_eq_getElem_cons hlt]
          congr 1
          rw [List.getElem?_eq_getElem hlt] at hk
          exact Option.some.inj hk
        have hk8 := HS8.out k (List.mem_of_getElem? hk)
        obtain ⟨R, eR⟩ : ∃ R, R = (segs.drop (i + 1)).length := ⟨_, rfl⟩
        have hlen6 : (segs.drop i).length = R + 1 := by rw [hdrop, eR]; rfl
        obtain ⟨b, off, rfl, hcell⟩ := nI_cell hr6 (l := segs.drop i) (i := 0) (k := k) (by rw [hdrop]; rfl)
        rw [hlen6] at x3 hc6
        have hR : R ≤ 4194304 := by rw [eR, List.length_drop]; omega
        have HTr := (HT.out.step HC6.out.step HF.out).1
        have HGD : Hid (wr.grownBy wr.drew none) := gb_drew (World.grownBy.refl _ _)
        have HSG : Hid (Calls Tryz.prog 54 #[.pointer (some ⟨p, 0, none⟩), .int .i64 (k : Int)] wr.drew fun e w' => e = .returned (.string (segN dir k)) ∧ wr.drew.grownBy w' none) := w_segment p d dir (cpN dir op) _ _ k hk8 _ (by omega) (HTr.grown HGD.out) (hW6.kept HGD.out (by simp))
        have HDL : Hid (∀ w1, wr.grownBy w1 none → Calls Tryz.prog 91 #[.pointer (some ⟨d, 0, none⟩), .string (segN dir k)] w1 fun e w' => e = .returned (.int .i64 60) ∧ ∃ n' B', n' ≤ n6 ∧ CutAt w w' base d mb n' y p dir (cpN dir op) (segs.drop i) (op + 1) A B B' (some ⟨b, off, none⟩) k6) := fun w1 hg => by
          have h1 := HC6.out.grown hg
          refine (x_deleteN base d mb n6 _ B6 (segN dir k) w1 h1.disk HYO.out (by rw [EKJ.out]; exact hkn)).mono ?_
          rintro e w' ⟨rfl, n', B', hn', hd', hst⟩
          rw [EKJ.out, HY.out] at hd' ⊢
          obtain ⟨B'', h2⟩ := h1.write hd' hst
          exact ⟨rfl, n', B'', hn', h2⟩
        have x0 := hW6.cells.1
        have HW6 : Hid (WRow wr p d dir (cpN dir op) (.slice (some ⟨b, off, none⟩) (segs.drop i).length k6) ((op + 1 : Nat) : Int)) := hW6
        have hdl : segs.drop i = k :: segs.drop (i + 1) := hdrop
        have HX3 : Hid (∀ w5 n5 B5, CutAt w w5 base d mb n5 y p dir (cpN dir op) (segs.drop i) (op + 1) A B B5 (some ⟨b, off, none⟩) k6 → w5.cell? ⟨p, 0, none⟩ = some (.pointer (some ⟨d, 0, none⟩)) ∧ w5.cell? ⟨p, 3, none⟩ = some (.slice (some ⟨b, off, none⟩) (R + 1) k6) ∧ w5.cell? ⟨b, off, none⟩ = some (.int .i64 (k : Int)) ∧ w5.frozen? ⟨p, 3, none⟩ = false) := fun w5 n5 B5 h5 => by
          obtain ⟨hW7, hr7, hc7, ha7⟩ := h5.row
          obtain ⟨b', off', e', hcell'⟩ := nI_cell hr7 (l := segs.drop i) (i := 0) (k := k) (by rw [hdl]; rfl)
          cases e'
          simp only [Nat.add_zero] at hcell'
          rw [← hlen6]
          exact ⟨hW7.cells.1, hW7.cells.2.2.2.1, hcell', hW7.frozen 3⟩
        have HLF : Hid (leftN wr p = R + 1) := by show _ = _; rw [HC6.out.left, hlen6]
        have HERR : Hid (R = (segs.drop (i + 1)).length) := eR
        simp only [Nat.add_zero] at hcell
        clear hC6 hW6 hr6 ha6 hk hdrop hdl hk8 HTr eR hlen6
        go_wp2_with fail
        refine wp_region_held_drew (S := fun W => W.cell? ⟨p, 0, none⟩ = some (.pointer (some ⟨d, 0, none⟩)) ∧ W.cell? ⟨p, 3, none⟩ = some (.slice (some ⟨b, off, none⟩) (R + 1) k6) ∧ W.cell? ⟨b, off, none⟩ = some (.int .i64 (k : Int))) (by kernel_rfl) (by go_keep) (fun hHeld => ?_)
        refine wpAnyH_take (i := 0) (v := .pointer (some ⟨p, 0, none⟩)) rfl (by kernel_rfl) (by kernel_rfl) (by kernel_rfl) (fun _ _ _ h => h) (Or.inl ⟨by rfl, fun w hSw => ?_⟩) (by assumption) ?_
        · go_simp
        refine wpAnyH_take (i := 1) (v := .pointer (some ⟨p, 0, none⟩)) rfl (by kernel_rfl) (by kernel_rfl) (by kernel_rfl) (fun _ _ _ h => h) (Or.inl ⟨by rfl, fun w hSw => ?_⟩) (by assumption) ?_
        · go_simp
        refine wpAnyH_take (i := 2) (v := .pointer (some ⟨p, 0, none⟩)) rfl (by kernel_rfl) (by kernel_rfl) (by kernel_rfl) (fun _ _ _ h => h) (Or.inl ⟨by rfl, fun w hSw => ?_⟩) (by assumption) ?_
        · go_simp
        refine wpAnyH_take (i := 3) (v := .pointer (some ⟨d, 0, none⟩)) rfl (by kernel_rfl) (by kernel_rfl) (by kernel_rfl) (fun _ _ _ h => h) (Or.inl ⟨by rfl, fun w hSw => ?_⟩) (by assumption) ?_
        · go_simp
        refine wpAnyH_take (i := 4) (v := .pointer (some ⟨p, 0, none⟩)) rfl (by kernel_rfl) (by kernel_rfl) (by kernel_rfl) (fun _ _ _ h => h) (Or.inl ⟨by rfl, fun w hSw => ?_⟩) (by assumption) ?_
        · go_simp
        refine wpAnyH_take (i := 5) (v := .pointer (some ⟨p, 0, none⟩)) rfl (by kernel_rfl) (by kernel_rfl) (by kernel_rfl) (fun _ _ _ h => h) (Or.inl ⟨by rfl, fun w hSw => ?_⟩) (by assumption) ?_
        · go_simp
        refine wpAnyH_take (i := 6) (v := .pointer (some ⟨p, 0, none⟩)) rfl (by kernel_rfl) (by kernel_rfl) (by kernel_rfl) (fun _ _ _ h => h) (Or.inl ⟨by rfl, fun w hSw => ?_⟩) (by assumption) ?_
        · go_simp
        refine wpAnyH_take (i := 7) (v := .pointer (some ⟨p, 3, none⟩)) rfl (by kernel_rfl) (by kernel_rfl) (by kernel_rfl) (fun _ _ _ h => h) (Or.inl ⟨by rfl, fun w hSw => ?_⟩) (by assumption) ?_
        · go_simp
        refine wpAnyH_take (i := 8) (v := .slice (some ⟨b, off, none⟩) (R + 1) k6) rfl (by kernel_rfl) (by kernel_rfl) (by kernel_rfl) (fun _ _ _ h => h) (Or.inl ⟨by rfl, fun w hSw => ?_⟩) (by assumption) ?_
        · go_simp
        refine wpAnyH_take (i := 9) (v := .pointer (some ⟨b, off, none⟩)) rfl (by kernel_rfl) (by kernel_rfl) (by kernel_rfl) (fun _ _ _ h => h) (Or.inl ⟨by rfl, fun w hSw => ?_⟩) (by assumption) ?_
        · go_simp
        refine wpAnyH_take (i := 10) (v := .int .i64 (k : Int)) rfl (by kernel_rfl) (by kernel_rfl) (by kernel_rfl) (fun _ _ _ h => h) (Or.inl ⟨by rfl, fun w hSw => ?_⟩) (by assumption) ?_
        · go_simp
        refine wpAnyH_ready (rs := [11]) (by kernel_rfl) (by simp) (AllReadyH.cons (i := 11) rfl (fun K hK => ?_) AllReadyH.nil)
        go_simp
        refine HSG.out.mono ?_
        rintro e w1 ⟨rfl, hg1⟩
        have HG1 : Hid (wr.grownBy w1 none) := HGD.out.trans hg1
        have x0' : w1.cell? ⟨p, 0, none⟩ = some (.pointer (some ⟨d, 0, none⟩)) := HG1.out.cell x0 (by simp)
        have x3' : w1.cell? ⟨p, 3, none⟩ = some (.slice (some ⟨b, off, none⟩) (R + 1) k6) := HG1.out.cell x3 (by simp)
        have xc' : w1.cell? ⟨b, off, none⟩ = some (.int .i64 (k : Int)) := HG1.out.cell hcell (by simp)
        clear hg1
        refine hK.out _ _ (by go_keep) (fun hHeld => ?_)
        clear hK K
        refine wpAnyH_ready (rs := [12]) (by kernel_rfl) (by simp) (AllReadyH.cons (i := 12) rfl (fun K hK => ?_) AllReadyH.nil)
        go_simp
        refine (HDL.out _ HG1.out).mono ?_
        rintro e w5 ⟨rfl, n5, B5, hn5, hC5⟩
        have HC5 : Hid (CutAt w w5 base d mb n5 y p dir (cpN dir op) (segs.drop i) (op + 1) A B B5 (some ⟨b, off, none⟩) k6) := hC5
        obtain ⟨x0'', x3'', xc'', z3''⟩ := HX3.out _ _ _ hC5
        clear hC5
        refine hK.out _ _ (by go_keep) (fun hHeld => ?_)
        clear hK K
        refine wpAnyH_ready (rs := [13]) (by kernel_rfl) (by simp) (AllReadyH.cons (i := 13) rfl (fun K hK => ?_) AllReadyH.nil)
        go_simp
        refine (HDP _).mono ?_
        rintro e w6 ⟨rfl, rfl⟩
        exact ⟨rfl, rfl, n5, B5, by omega, HC5.out.disk, HC5.out.step, HC5.out.apart, HC5.out.ltB⟩
end Go.Proofs.YtekejnjaiccnbaaGreatDoor

/- Package wal: mend and Open, where a draft stands beside whole segments. -/
namespace Go.Proofs.YtekejnjaiccnbaaGreatDoor
open Go.RowKit Go.Maps Go.Sort
set_option linter.unusedVariables false
set_option maxRecDepth 20000

/-- A folder of whole segments, and a draft. -/
structure DraftLog (V : Cont) (dir : ByteArray) (Ls : Sg) : Prop where
  folder : Folder V dir [] true (Ls.map Prod.fst)
  whole : Whole V dir Ls
  above : ∀ q ∈ Ls, 0 < q.1
  draft : ∃ q, V (newN dir) = some q
/-- What mend has made of it; what it tells lies above the log and the disk. -/
def TornMendL (base d mb n : Nat) (x' : DSt) (dir : ByteArray) (K : Kp) (LL : Sg) (B : Nat → Prop) (W : World) (p : Nat) (v : Sl) (w' : World) : Prop := ∃ (m n' : Nat) (A B' : Nat → Prop) (lo : Nat), RecsLo lo w' (slV v) m (cpRecs K ++ recsOf LL) ∧ n' ≤ n + 2 ∧ LogAt w' base d mb n' x' p dir (cpName dir K) (LL.map Prod.fst) (openN K LL) A B' ∧ Kept W w' (fun k => k = p ∨ B k) ∧ (∀ k, A k → k = p ∨ W.heap.size ≤ k) ∧ (∀ k, k < W.heap.size → B' k → B k) ∧ W.heap.size ≤ lo ∧ ∀ k, A k ∨ B' k → k < lo
set_option maxHeartbeats 16000000 in
theorem w_mendA (base d mb n : Nat) (dir : ByteArray) (x : DSt) (B : Nat → Prop) (Ls : Sg) (w W0 : World) (p : Nat) (hdir : dirB dir = true) (ht : Tab W0) (hMI : MendIn w W0 p d dir) (hd : DS W0 base d mb n x B) (hlp : ∀ k, B k → k < p) (hcalm : x.Calm) (hn : n < 1048576) (hlog : DraftLog x.V dir Ls) (hfar : ∀ g, Tryz.prog.globalNamed "internal/strconv.uint64pow10" = some g → ¬ B g) (hsz : (recsOf Ls).length ≤ 4194304) (hln : Ls.length ≤ 4194304) :
    Calls Tryz.prog 45 #[.pointer (some ⟨p, 0, none⟩)] W0 fun e w' => ∃ v : Sl, e = .returned (slV v) ∧ TornMendL base d mb (n - 2) (x.delete (newN dir)).2 dir none Ls B W0 p v w' ∧ ∀ k, p < k → k < W0.heap.size → w'.heap[k]? = W0.heap[k]? := by
  have h := hMI.row
  have hon := hcalm.on
  have hltB : ∀ k, B k → k < W0.heap.size := fun k hk => Nat.lt_trans (hlp k hk) h.lt
  have hBp : ¬ B p := fun hk => Nat.lt_irrefl _ (hlp p hk)
  have hds : dir.size ≤ 32 := by simp only [dirB, Bool.and_eq_true, decide_eq_true_eq] at hdir; exact hdir.2
  have hnm := new_name hdir
  obtain ⟨qd, hqd⟩ := hlog.draft
  have hdel := calm_del x hcalm (newN dir) qd hqd
  have HLK : Hid (Calls Tryz.prog 90 #[.pointer (some ⟨p, 0, none⟩)] W0 (LookOut W0 [] (Ls.map Prod.fst) true)) := w_look base p d mb n dir ⟨#[]⟩ (.slice none 0 0) 0 x B [] (Ls.map Prod.fst) true W0 hdir h hd hon hlog.folder (by omega) (fun k hk => by obtain ⟨q, hq, rfl⟩ := List.mem_map.1 hk; exact hlog.above q hq)
  have HW : Hid (WRow W0 p d dir ⟨#[]⟩ (.slice none 0 0) 0) := h
  have HD : Hid (DS W0 base d mb n x B) := hd
  have HT : Hid (Tab W0) := ht
  have HB : Hid (¬ B p) := hBp
  have HLTB : Hid (∀ k, B k → k < W0.heap.size) := hltB
  have HLP : Hid (∀ k, B k → k < p) := hlp
  have HDIR : Hid (dirB dir = true) := hdir
  have HLOG : Hid (DraftLog x.V dir Ls) := hlog
  have HCALM : Hid x.Calm := hcalm
  have HDEL : Hid (x.delete (newN dir) = (0, { x with wn := x.wn + 1, V := setV x.V (newN dir) none })) := hdel
  have eLs : (Ls.map Prod.fst).length = Ls.length := List.length_map _
  have HFAR : Hid (∀ g, Tryz.prog.globalNamed "internal/strconv.uint64pow10" = some g → ¬ B g) := hfar
  have HD0 := fun w => w_done0 w
  clear hfar
  clear h hd ht hBp hdir hlog hltB hlp hcalm hdel hqd hMI
  go_enter Tryz.func45, Tryz.ntmps45
  go_wp2_with fail
  refine HLK.out.mono ?_
  rintro e w1 ⟨a0, k0, a1, k1, b1, rfl, ho0, ho1, hb0, hb1, hg1, hnil⟩
  rw [eLs] at ho1 ⊢
  have hga : w1.grownBy (w1.alloc (.cells #[.slice a0 0 k0, .slice a1 Ls.length k1, .bool true] 115)) none := World.grownBy_alloc w1 _ none
  have hza : (w1.alloc (.cells #[.slice a0 0 k0, .slice a1 Ls.length k1, .bool true] 115)).heap.size = w1.heap.size + 1 := Array.size_push _
  have hgA := hg1.trans hga
  have hWA := HW.out.kept hgA (by simp)
  have xA0 := hWA.cells.1
  have hrowA : (w1.alloc (.cells #[.slice a0 0 k0, .slice a1 Ls.length k1, .bool true] 115)).rowIs w1.heap.size 115 3 (lookF (.slice a0 0 k0) (.slice a1 Ls.length k1) true) := World.rowIs_alloc w1 #[.slice a0 0 k0, .slice a1 Ls.length k1, .bool true] 115 (lookF (.slice a0 0 k0) (.slice a1 Ls.length k1) true) (three rfl rfl rfl)
  obtain ⟨wA, ewA⟩ : ∃ wA, wA = w1.alloc (.cells #[.slice a0 0 k0, .slice a1 Ls.length k1, .bool true] 115) := ⟨_, rfl⟩
  have HEA : Hid (wA = w1.alloc (.cells #[.slice a0 0 k0, .slice a1 Ls.length k1, .bool true] 115)) := ewA
  rw [← ewA] at hga hza hgA hWA xA0 hrowA
  have cA2 : wA.cell? ⟨w1.heap.size, 2, none⟩ = some (.bool true) := hrowA.cell (i := 2) (by omega)
  have HGA : Hid (W0.grownBy wA none) := hgA
  have HGD : Hid (wA.grownBy wA.drew none) := gb_drew (World.grownBy.refl _ _)
  have HDR : Hid (Calls Tryz.prog 92 #[.pointer (some ⟨p, 0, none⟩)] wA.drew fun e w' => e = .returned (.string (newN dir)) ∧ wA.drew = w') := w_draft p d dir ⟨#[]⟩ _ _ wA.drew (by omega) (hWA.kept HGD.out (by simp))
  have HDL : Hid (Calls Tryz.prog 91 #[.pointer (some ⟨d, 0, none⟩), .string (newN dir)] wA.drew fun e w' => e = .returned (.int .i64 0) ∧ ∃ n' B', n' ≤ n ∧ DS w' base d mb n' (x.delete (newN dir)).2 B' ∧ Step wA w' B B' ∧ w'.cell? ⟨p, 0, none⟩ = some (.pointer (some ⟨d, 0, none⟩))) := by
    refine (x_deleteN base d mb n x B (newN dir) wA.drew (DV.kept HD.out (hgA.trans HGD.out)) HCALM.out.ok hnm).mono ?_
    rintro e w' ⟨rfl, n', B', hn', hd', hst⟩
    have hst' : Step wA w' B B' := (Step.grown B HGD.out).trans hst
    refine ⟨by rw [HDEL.out], n', B', hn', hd', hst', ?_⟩
    have hW' : WRow w' p d dir ⟨#[]⟩ (.slice none 0 0) 0 := hWA.of_block (hst'.1.block p hWA.lt HB.out)
    exact hW'.cells.1
  have HO0 : Hid (SOwn intE 3 wA W0.heap.size (.slice a0 0 k0) 0 (nI [])) := SOwn.kept ho0 hga (by cases a0 <;> simp [Value.ownBlock])
  have HO1 : Hid (SOwn intE 3 wA b1 (.slice a1 Ls.length k1) Ls.length (nI (Ls.map Prod.fst))) := SOwn.kept ho1 hga (by cases a1 <;> simp [Value.ownBlock])
  have HWA : Hid (WRow wA p d dir ⟨#[]⟩ (.slice none 0 0) 0) := hWA
  have HROW : Hid (wA.rowIs w1.heap.size 115 3 (lookF (.slice a0 0 k0) (.slice a1 Ls.length k1) true)) := hrowA
  have HNIL : Hid (Ls.map Prod.fst = [] → a1 = none ∧ k1 = 0) := hnil
  have HZ1 : Hid (W0.heap.size ≤ w1.heap.size ∧ wA.heap.size = w1.heap.size + 1) := ⟨hg1.size, hza⟩
  clear ho0 ho1 hb0 hg1 hnil HLK hga hgA hWA hza hrowA ewA
  unfold FolderV
  go_wp2_with fail
  rw [← HEA.out]
  go_region_held3 (fun W => W.cell? ⟨p, 0, none⟩ = some (.pointer (some ⟨d, 0, none⟩))) (go_keep) (first
    | (go_at_call 92; refine HDR.out.mono ?_; rintro e w2 ⟨rfl, rfl⟩)
    | (go_at_call 91; refine HDL.out.mono ?_; rintro e w2 ⟨rfl, n2, B2, hn2, hd2, hs2, x20⟩; have HD2 : Hid (DS w2 base d mb n2 (x.delete (newN dir)).2 B2) := hd2; have HS2 : Hid (Step wA w2 B B2) := hs2; clear hd2 hs2)
    | (go_at_call 52; refine (HD0 _).mono ?_; rintro e w3 ⟨rfl, rfl⟩))
  obtain ⟨x1, ex1⟩ : ∃ x1, x1 = (x.delete (newN dir)).2 := ⟨_, rfl⟩
  have hx1 : x1 = { x with wn := x.wn + 1, V := setV x.V (newN dir) none } := by rw [ex1, HDEL.out]
  have HX1 : Hid (x1 = (x.delete (newN dir)).2) := ex1
  rw [← ex1] at HD2
  have hnB : ∀ k, W0.heap.size ≤ k → ¬ B k := fun k hk hb => by have := HLTB.out k hb; omega
  have hz := HZ1.out
  have hW2 : WRow w2 p d dir ⟨#[]⟩ (.slice none 0 0) 0 := HWA.out.of_block (HS2.out.1.block p HWA.out.lt HB.out)
  have hrow2 := HROW.out.of_block (HS2.out.1.block _ HROW.out.lt (hnB _ hz.1))
  have l0 : w2.cell? ⟨w1.heap.size, 0, none⟩ = some (.slice a0 0 k0) := hrow2.cell (i := 0) (by omega)
  have l1 : w2.cell? ⟨w1.heap.size, 1, none⟩ = some (.slice a1 Ls.length k1) := hrow2.cell (i := 1) (by omega)
  have l2 : w2.cell? ⟨w1.heap.size, 2, none⟩ = some (.bool true) := hrow2.cell (i := 2) (by omega)
  have hO0 := sown_keptK HO0.out HS2.out.1 (fun k hk => hnB k (HO0.out.block k hk).1)
  have hO1 := sown_keptK HO1.out HS2.out.1 (fun k hk => hnB k (Nat.le_trans hb1 (HO1.out.block k hk).1))
  have hT2 : Tab w2 := (HT.out.grown HGA.out).keptK HS2.out.1 HFAR.out
  have hpb : p < b1 := Nat.lt_of_lt_of_le HW.out.lt hb1
  have HDO : Hid (Calls Tryz.prog 93 #[.pointer (some ⟨p, 0, none⟩), FolderV (.slice a0 0 k0) (.slice a1 Ls.length k1) true] w2 fun e w' => e = .returned (.int .i64 (lastN none : Int)) ∧ WRow w' p d dir (cpName dir none) (.slice a1 Ls.length k1) 0 ∧ w2.grownBy w' (some p)) := by
    have := w_dropOld p d dir (.slice none 0 0) 0 none (Ls.map Prod.fst) a0 a1 k0 k1 W0.heap.size b1 true w2 (by omega) hT2 (by decide) hW2 hO0 (by rw [eLs]; exact hO1) HLOG.out.folder.segr.1 (fun k hk => by obtain ⟨q, hq, rfl⟩ := List.mem_map.1 hk; exact HLOG.out.above q hq) (by rw [eLs]; exact hln) HNIL.out hpb
    rw [eLs] at this
    exact this
  have HO12 : Hid (SOwn intE 3 w2 b1 (.slice a1 Ls.length k1) Ls.length (nI (Ls.map Prod.fst))) := hO1
  have HT2 : Hid (Tab w2) := hT2
  have HW2 : Hid (WRow w2 p d dir ⟨#[]⟩ (.slice none 0 0) 0) := hW2
  have HNB : Hid (∀ k, W0.heap.size ≤ k → ¬ B k) := hnB
  clear hW2 hrow2 hO0 hO1 hT2 hnB ex1 HROW HDL HDR
  unfold FolderV at HDO
  go_wp2_with fail
  refine HDO.out.mono ?_
  rintro e w3 ⟨rfl, hW3, hg3⟩
  have hB2p : ¬ B2 p := fun hb => HB.out (HS2.out.2 p HWA.out.lt hb)
  have hO13 := SOwn.kept HO12.out hg3 (.inr (fun e => by have := (HO12.out.block _ e).1; omega))
  have hk3 : Kept w2 w3 (fun k => k = p) := Kept.of hg3 (fun k hk => by cases hk; rfl)
  have hL3 : LogAt w3 base d mb n2 x1 p dir (cpName dir none) (Ls.map Prod.fst) 0 (fun k => k = p ∨ ∃ y, a1 = some y ∧ k = y.block) (fun k => B2 k ∧ k < w2.heap.size) := by
    refine ⟨HD2.out.bound.others hk3 (fun k hb e => hB2p (e ▸ hb.1)), ⟨a1, k1, by rw [eLs]; exact hW3, by rw [eLs]; exact hO13.base (Nat.zero_le _), .inl rfl, fun y hy => ⟨.inr ⟨y, hy, rfl⟩, fun e => ?_⟩⟩, ?_, fun k hb => Nat.lt_of_lt_of_le hb.2 hg3.size, ?_⟩
    · subst hy
      have := (HO1.out.block y.block rfl).1
      omega
    · rintro k (rfl | ⟨y, rfl, rfl⟩) hb
      · exact hB2p hb.1
      · have h1 := HO1.out.block y.block rfl
        exact HNB.out _ (Nat.le_trans hb1 h1.1) (HS2.out.2 _ h1.2 hb.1)
    · rintro k (rfl | ⟨y, rfl, rfl⟩)
      · exact hW3.lt
      · exact (hO13.block y.block rfl).2
  have HA : Hid (∀ k, (k = p ∨ ∃ y, a1 = some y ∧ k = y.block) → k = p ∨ W0.heap.size ≤ k) := by
    show ∀ k, _ → _
    rintro k (rfl | ⟨y, rfl, rfl⟩)
    · exact .inl rfl
    · exact .inr (Nat.le_trans hb1 (HO1.out.block y.block rfl).1)
  obtain ⟨A, eA⟩ : ∃ A : Nat → Prop, A = fun k => k = p ∨ ∃ y, a1 = some y ∧ k = y.block := ⟨_, rfl⟩
  obtain ⟨B3, eB3⟩ : ∃ B3 : Nat → Prop, B3 = fun k => B2 k ∧ k < w2.heap.size := ⟨_, rfl⟩
  rw [← eA, ← eB3] at hL3
  have HA : Hid (∀ k, A k → k = p ∨ W0.heap.size ≤ k) := by rw [eA]; exact HA.out
  have HB3 : Hid (∀ k, k < W0.heap.size → B3 k → B k) := fun k hk hb => by rw [eB3] at hb; exact HS2.out.2 k (Nat.lt_of_lt_of_le hk HGA.out.size) hb.1
  have hwhole : Whole x1.V dir Ls := by
    rw [hx1]
    intro q hq
    obtain ⟨⟨syn, h2⟩, h3, h4⟩ := HLOG.out.whole q hq
    exact ⟨⟨syn, by show setV _ _ _ _ = _; rw [setV_other _ _ (fun e => new_ne_seg dir q.1 e.symm)]; exact h2⟩, h3, h4⟩
  have HRA : Hid (Calls Tryz.prog 94 #[.pointer (some ⟨p, 0, none⟩)] w3 (AllOut w3 (cpRecs none ++ recsOf Ls))) := w_replayAll base p d mb n2 dir (cpName dir none) a1 k1 0 x1 B3 none Ls w3 HDIR.out (HT2.out.row HW2.out hg3) hW3 hO13.rd hL3.disk (by rw [hx1]; exact hon) rfl hwhole (by show (([] : List (List Int)) ++ recsOf Ls).length ≤ _; rw [List.nil_append]; exact hsz) hln
  have HK3 : Hid (Kept W0 w3 (fun k => k = p ∨ B k)) := ((Kept.of HGA.out (X := fun k => k = p ∨ B k) (fun k hk => by cases hk)).trans HS2.out.1 (fun k _ hb => .inr hb)).trans hk3 (fun k _ e => .inl e)
  have HL3 : Hid (LogAt w3 base d mb n2 x1 p dir (cpName dir none) (Ls.map Prod.fst) 0 A B3) := hL3
  clear hL3 hW3 hg3 hO13 hk3 hB2p eA eB3 HDO HD2 HS2 HO0 HO1 HO12 HWA hx1 hwhole hz
  go_wp2_with fail
  refine HRA.out.mono ?_
  rintro e w4 ⟨rv, rfl, hA4⟩
  obtain ⟨m, hro⟩ := hA4.out
  have HRO : Hid (RecsOut w3 w4 (slV rv) m (recsOf Ls)) := hro
  have hL4 := HL3.out.grown hA4.grown
  have hS4 : Step2 w3 w4 A B3 A B3 := Step2.grown A B3 hA4.grown
  have hLa := hL4.setOpen 1 (1 : Int) rfl
  have HZ3 : Hid (W0.heap.size ≤ w3.heap.size) := HK3.out.size
  have HFIN : Hid (∀ w6 k, Kept w4 w6 (fun j => j = p) → LogAt w6 base d mb n2 x1 p dir (cpName dir none) (Ls.map Prod.fst) k A B3 → Step2 w3 w6 A B3 A B3 → k = openN none Ls → TornMendL base d mb (n - 2) (x.delete (newN dir)).2 dir none Ls B W0 p rv w6 ∧ ∀ j, p < j → j < W0.heap.size → w6.heap[j]? = W0.heap[j]?) := by
    intro w6 k hk46 hLb hS6 hop
    have hp3 : p < w3.heap.size := Nat.lt_of_lt_of_le HW.out.lt HZ3.out
    have hk06 : Kept W0 w6 (fun j => j = p ∨ B j) := HK3.out.trans hS6.kept (fun j hj hX => hX.elim (fun ha => (HA.out j ha).elim .inl (fun h => by omega)) (fun hb => .inr (HB3.out j hj hb)))
    obtain ⟨ts, t1, t2, t3, t4⟩ := HRO.out.keptK hk46 (fun j hj e => by omega)
    rw [HX1.out] at hLb
    exact ⟨⟨m, n2, A, B3, w3.heap.size, ⟨ts, t1, t2, t3, t4⟩, by omega, hop ▸ hLb, hk06, HA.out, fun j hj hb => HB3.out j hj (hS6.oldB j (Nat.lt_of_lt_of_le hj HZ3.out) hb), HZ3.out, fun j hj => hj.elim (HL3.out.ltA j) (HL3.out.ltB j)⟩, fun j h1 h2 => hk06.block j h2 (fun hX => hX.elim (fun e => by omega) (fun hb => by have := HLP.out j hb; omega))⟩
  obtain ⟨a4, k4, hW4, _, _, _⟩ := hL4.wal
  obtain ⟨a5, k5, hW5, hso5, _, hay5⟩ := hLa.1.wal
  rw [eLs] at hW4 hW5 hso5
  have y4 := hW4.cells.2.2.2.2
  have z4 := hW4.frozen 4
  have y5 := hW5.cells.2.2.2.1
  have x5 := hW5.cells.2.2.2.2
  have z5 := hW5.frozen 4
  have hka : Kept w4 (w4.setCell ⟨p, 4, none⟩ (.int .i64 1)) (fun j => j = p) := Kept.of (gb_set rfl) (fun j hj => by cases hj; rfl)
  have e0 : (lastN none : Int) = 0 := rfl
  rw [e0]
  rcases Nat.eq_zero_or_pos Ls.length with h0 | hpos
  · have hnil : Ls = [] := List.eq_nil_of_length_eq_zero h0
    rw [h0] at y5
    have HF2 := HFIN.out _ _ hka hLa.1 (hS4.trans hLa.2) (by rw [hnil]; rfl)
    have HF2 : Hid (TornMendL base d mb (n - 2) (x.delete (newN dir)).2 dir none Ls B W0 p rv (w4.setCell ⟨p, 4, none⟩ (.int .i64 1)) ∧ ∀ j, p < j → j < W0.heap.size → (w4.setCell ⟨p, 4, none⟩ (.int .i64 1)).heap[j]? = W0.heap[j]?) := HF2
    clear hro hA4 hL4 hS4 hLa hW4 hW5 hso5 hay5 HRA HFIN hka e0
    go_wp2
    go_ret
    exact ⟨rv, rfl, HF2.out.1, HF2.out.2⟩
  · obtain ⟨L', eL'⟩ : ∃ L', Ls.length = L' + 1 := ⟨Ls.length - 1, by omega⟩
    obtain ⟨k, hk⟩ : ∃ k, (Ls.map Prod.fst)[Ls.length - 1]? = some k := ⟨_, List.getElem?_eq_getElem (by rw [eLs]; omega)⟩
    have HOP : Hid (k = openN none Ls) := by
      show _ = _
      unfold openN
      rw [List.getLast?_eq_getElem?, eLs, hk]
    have hLb := hLa.1.setOpen k (k : Int) rfl
    obtain ⟨b, off, rfl, hcell5⟩ := nI_cell hso5.rd hk
    rw [eL'] at y5
    rw [eL', show L' + 1 - 1 = L' from rfl] at hcell5
    have qL : (L' : Int) < (L' : Int) + 1 := by omega
    have hL4' : (L' : Int) ≤ 4194304 := by omega
    have HF2 : Hid (TornMendL base d mb (n - 2) (x.delete (newN dir)).2 dir none Ls B W0 p rv ((w4.setCell ⟨p, 4, none⟩ (.int .i64 1)).setCell ⟨p, 4, none⟩ (.int .i64 (k : Int))) ∧ ∀ j, p < j → j < W0.heap.size → ((w4.setCell ⟨p, 4, none⟩ (.int .i64 1)).setCell ⟨p, 4, none⟩ (.int .i64 (k : Int))).heap[j]? = W0.heap[j]?) := HFIN.out _ _ (Kept.of (gb_trans (gb_set rfl) (gb_set rfl) (fun j hj => .inr hj)) (fun j hj => by cases hj; rfl)) hLb.1 ((hS4.trans hLa.2).trans hLb.2) HOP.out
    clear hro hA4 hL4 hS4 hLa hLb hW4 hW5 hso5 hay5 hk HRA HFIN hka e0
    go_wp2
    go_ret
    exact ⟨rv, rfl, HF2.out.1, HF2.out.2⟩
end Go.Proofs.YtekejnjaiccnbaaGreatDoor

/- Open by what mend answers: the log that it hands out. Open where a draft stands. -/
namespace Go.Proofs.YtekejnjaiccnbaaGreatDoor
open Go.RowKit Go.Maps Go.Sort
set_option linter.unusedVariables false
set_option maxRecDepth 20000

/-- The log that Open hands out, whatever mend has done. -/
theorem openG_se {W w W4 w5 : World} {d mb n : Nat} {x' : DSt} {dir : ByteArray} {K : Kp} {LL : Sg} {B : Nat → Prop} {p : Nat} {v : Sl} (hMI : MendIn w W4 p d dir) (hT : TornMendL W.heap.size d mb n x' dir K LL B W4 p v w5) (hlog : Log x'.V dir K LL) (hc : x'.Calm) (hfrom : W.grownBy w none) (hlow : ∀ k, B k → W.heap.size ≤ k) (hltB : ∀ k, B k → k < w.heap.size) (ht : Tab W) :
    ∃ (m lo n' : Nat) (A B' : Nat → Prop), Se W (openW w5 p v) d mb n' x' p dir K LL A B' ∧ RecsLo lo (openW w5 p v) (slV v) m (cpRecs K ++ recsOf LL) ∧ n' ≤ n + 2 ∧ Kept w (openW w5 p v) B ∧ (∀ k, k < w.heap.size → B' k → B k) ∧ w.heap.size ≤ lo ∧ (∀ k, A k ∨ B' k → k < lo) := by
  obtain ⟨m, n', A, B', lo, h1, h2, h3, h4, h5, h6, h7, h8⟩ := hT
  have hk := openW_kept w5 p v
  have hs := hMI.size
  have hnew := hMI.new_
  have hBp : ∀ k, B' k → ¬ (k = p + 2 ∨ k = p + 3) := fun k hb hX => by
    have := hltB k (h6 k (by omega) hb)
    omega
  have hAp : ∀ k, A k → ¬ (k = p + 2 ∨ k = p + 3) := fun k ha hX => by
    rcases h5 k ha with e | e <;> omega
  obtain ⟨ts, r1, r2, r3, r4⟩ := h1
  have g4 := hMI.grown
  have hkw : Kept w (openW w5 p v) B := by
    refine ⟨hk.os.trans (h4.os.trans g4.os), hk.tape.trans (h4.tape.trans g4.tape), hk.output.trans (h4.output.trans g4.output), Nat.le_trans g4.size (Nat.le_trans h4.size hk.size), fun k hkl hX => ?_⟩
    have hkp : k < p := Nat.lt_of_lt_of_le hkl hMI.new_
    rw [hk.block k (by have := h4.size; omega) (by omega), h4.block k (by omega) (fun hY => hY.elim (fun e => by omega) (fun hb => hX hb))]
    exact g4.block k hkl (by simp)
  have hlowB : ∀ k, B' k → W.heap.size ≤ k := fun k hb => by
    rcases Nat.lt_or_ge k W4.heap.size with hl | hl
    · exact hlow k (h6 k hl hb)
    · exact Nat.le_trans (Nat.le_trans hfrom.size g4.size) hl
  refine ⟨m, lo, n', A, B', ⟨⟨h3.disk.others hk hBp, h3.wal.kept hk hAp, h3.apart, fun k hb => Nat.lt_of_lt_of_le (h3.ltB k hb) hk.size, fun k ha => Nat.lt_of_lt_of_le (h3.ltA k ha) hk.size⟩, hlog, hc, ?_, ?_, ht⟩, ⟨ts, sown_keptK r1 hk (fun k hkb hX => by have := (r1.block k hkb).1; omega), r2.keptK hk (fun k hkl _ hX => by omega), r3, r4⟩, h2, hkw, fun k hkl hb => h6 k (Nat.lt_of_lt_of_le hkl g4.size) hb, Nat.le_trans g4.size h7, h8⟩
  · exact ⟨hkw.os.trans hfrom.os, hkw.tape.trans hfrom.tape, hkw.output.trans hfrom.output, Nat.le_trans hfrom.size hkw.size, fun k hkl _ => (hkw.block k (Nat.lt_of_lt_of_le hkl hfrom.size) (fun hb => by have := hlow k hb; omega)).trans (hfrom.block k hkl (by simp))⟩
  · rintro k (ha | hb)
    · rcases h5 k ha with e | e
      · rw [e]; exact Nat.le_trans hfrom.size hnew
      · exact Nat.le_trans (Nat.le_trans hfrom.size g4.size) e
    · exact hlowB k hb
theorem draft_log {x : DSt} {dir : ByteArray} {Ls : Sg} (h : DraftLog x.V dir Ls) (hc : x.Calm) (hw : x.wn ≤ 999999980) : Log (x.delete (newN dir)).2.V dir none Ls ∧ (x.delete (newN dir)).2.Calm ∧ (x.delete (newN dir)).2.wn = x.wn + 1 := by
  obtain ⟨q, hq⟩ := h.draft
  rw [calm_del x hc _ q hq]
  refine ⟨?_, calm_next x hc (by omega) _, rfl⟩
  show Log (setV x.V (newN dir) none) dir none Ls
  refine ⟨⟨h.folder.cpr, h.folder.segr, fun s => ?_⟩, rfl, fun q hq => ?_, h.above, by decide⟩
  · have hm := h.folder.mem s
    have e0 : namesL dir [] true (Ls.map Prod.fst) = newN dir :: namesL dir (cpNums none) false (Ls.map Prod.fst) := by
      simp [namesL, cpNums]
    rw [e0, List.mem_cons] at hm
    by_cases e : s = newN dir
    · subst e
      rw [setV_same]
      constructor
      · rintro ⟨h2, _⟩
        cases h2
      · intro h2
        exfalso
        simp only [namesL, cpNums, List.map_nil, Bool.false_eq_true, if_false, List.nil_append, List.mem_map] at h2
        obtain ⟨j, _, e⟩ := h2
        exact new_ne_seg dir _ e.symm
    · rw [setV_other _ _ e, hm]
      simp [e]
  · obtain ⟨⟨syn, h2⟩, h3, h4⟩ := h.whole q hq
    exact ⟨⟨syn, by rw [setV_other _ _ (fun e => new_ne_seg dir q.1 e.symm)]; exact h2⟩, h3, h4⟩
/-- Open, of a folder with a draft. -/
theorem s_openA {W w : World} {d mb n : Nat} {x : DSt} {dir : ByteArray} {Ls : Sg} {B : Nat → Prop} (hd : DS w W.heap.size d mb n x B) (hL : DraftLog x.V dir Ls) (hc : x.Calm) (hfrom : W.grownBy w none) (hlow : ∀ k, B k → W.heap.size ≤ k) (hltB : ∀ k, B k → k < w.heap.size) (ht : Tab W) (hdir : dirB dir = true) (hw : x.wn ≤ 999999980) (hn : n < 1048576) (hsz : (recsOf Ls).length ≤ 4194304) (hln : Ls.length ≤ 4194304) :
    Calls Tryz.prog 13 #[.pointer (some ⟨d, 0, none⟩), .string dir] w fun e w' => ∃ (p : Nat) (v : Sl) (m lo n' : Nat) (x' : DSt) (A B' : Nat → Prop), e = .returned (.tuple #[.pointer (some ⟨p, 0, none⟩), slV v, .int .i64 0]) ∧ Se W w' d mb n' x' p dir none Ls A B' ∧ RecsLo lo w' (slV v) m (recsOf Ls) ∧ n' ≤ n - 2 + 2 ∧ x'.wn = x.wn + 1 ∧ Kept w w' B ∧ (∀ k, k < w.heap.size → B' k → B k) ∧ w.heap.size ≤ lo ∧ (∀ k, A k ∨ B' k → k < lo) := by
  refine (w_openG d dir w hdir (fun W4 p v w5 => TornMendL W.heap.size d mb (n - 2) (x.delete (newN dir)).2 dir none Ls B W4 p v w5) (fun W4 p hMI => ?_)).mono ?_
  · exact w_mendA W.heap.size d mb n dir x B Ls w W4 p hdir (ht.grown (hfrom.trans hMI.grown)) hMI (DV.kept hd hMI.grown) (fun k hk => Nat.lt_of_lt_of_le (hltB k hk) hMI.new_) hc hn hL (fun g hg hb => by have h1 := hlow g hb; have h2 := ht.lt hg; omega) hsz hln
  · rintro e w' ⟨W4, p, v, w5, hMI, hT, rfl, rfl⟩
    obtain ⟨t1, t2, t3⟩ := draft_log hL hc hw
    obtain ⟨m, lo, n', A, B', g1, g2, g3, g4, g5, g6⟩ := openG_se hMI hT t1 t2 hfrom hlow hltB ht
    exact ⟨p, v, m, lo, n', _, A, B', rfl, g1, g2, g3, t3, g4, g5, g6⟩
end Go.Proofs.YtekejnjaiccnbaaGreatDoor

