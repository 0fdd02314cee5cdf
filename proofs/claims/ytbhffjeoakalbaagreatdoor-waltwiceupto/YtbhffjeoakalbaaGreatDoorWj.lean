/- Package wal: Sync, Segments. -/
import Derived.Test.YtbhffjeoakalbaaGreatDoorWi
import Derived.Deep.RegionHeld3
namespace Go.Proofs.YtbhffjeoakalbaaGreatDoor
open Go.RowKit Go.Maps Go.Sort
set_option linter.unusedVariables false
set_option maxRecDepth 20000

theorem w_segments (w : World) (p d : Nat) (dir cp : ByteArray) (segs : List Nat) (op : Nat) (A : Nat → Prop) (h : WalA w p d dir cp segs op A) : Calls Tryz.prog 29 #[.pointer (some ⟨p, 0, none⟩)] w fun e w' => e = .returned (.int .i64 (segs.length : Int)) ∧ w = w' := by
  obtain ⟨a, c, hW, _⟩ := h
  obtain ⟨c0, c1, c2, c3, c4⟩ := hW.cells
  clear hW c0 c1 c2 c4
  go_enter Tryz.func29, Tryz.ntmps29
  go_wp2
  go_ret
  exact ⟨rfl, rfl⟩
def syncX (x : DSt) (dir : ByteArray) (segs : List Nat) (op : Nat) : DSt := if isOpen segs op = true then (x.sync (segN dir op)).2 else x
set_option maxHeartbeats 8000000 in
theorem w_sync1 (base d mb n : Nat) (x : DSt) (p q : Nat) (dir cp : ByteArray) (segs : List Nat) (op : Nat) (A B : Nat → Prop) (w : World) (hdir : dirB dir = true) (ht : Tab w) (h : LogAt w base d mb n x p dir cp segs op A B) (hok : x.ok) (hop : op < 99999999) (hs0 : (x.sync (segN dir op)).1 = 0) (hq : w.rowIs q 36 1 (fun _ => .pointer (some ⟨p, 0, none⟩))) (hqA : ¬ A q ∧ ¬ B q) :
    Calls Tryz.prog 51 #[.pointer (some ⟨q, 0, none⟩)] w fun e w' => e = .returned (.tuple #[]) ∧ ∃ n' B', n' ≤ n ∧ LogAt w' base d mb n' (x.sync (segN dir op)).2 p dir cp segs op A B' ∧ Step2 w w' A B A B' := by
  have hds : dir.size ≤ 32 := by simp only [dirB, Bool.and_eq_true, decide_eq_true_eq] at hdir; exact hdir.2
  have hnm := seg_name hdir op
  have HL : Hid (LogAt w base d mb n x p dir cp segs op A B) := h
  obtain ⟨a, c, hW, _⟩ := h.wal
  have HW : Hid (WRow w p d dir cp (.slice a segs.length c) (op : Int)) := hW
  have HQ : Hid (w.rowIs q 36 1 (fun _ => .pointer (some ⟨p, 0, none⟩))) := hq
  have HS0 : Hid ((x.sync (segN dir op)).1 = 0) := hs0
  have c0 := hW.cells.1
  have c4 := hW.cells.2.2.2.2
  have cq : w.cell? ⟨q, 0, none⟩ = some (.pointer (some ⟨p, 0, none⟩)) := hq.cell (i := 0) (by omega)
  have HD0 := fun w => w_done0 w
  have HGD : Hid (w.grownBy w.drew none) := gb_drew (World.grownBy.refl _ _)
  have HSG : Hid (Calls Tryz.prog 54 #[.pointer (some ⟨p, 0, none⟩), .int .i64 (op : Int)] w.drew fun e w' => e = .returned (.string (segN dir op)) ∧ w.drew.grownBy w' none) := w_segment p d dir cp _ _ op (by omega) _ (by omega) (ht.grown HGD.out) (hW.kept HGD.out (by simp))
  have HSY : Hid (∀ w1, w.grownBy w1 none → Calls Tryz.prog 53 #[.pointer (some ⟨d, 0, none⟩), .string (segN dir op)] w1 fun e w' => e = .returned (.int .i64 0) ∧ ∃ n' B', n' ≤ n ∧ LogAt w' base d mb n' (x.sync (segN dir op)).2 p dir cp segs op A B' ∧ Step2 w w' A B A B') := fun w1 hg => by
    have h1 := HL.out.grown hg
    refine (x_syncN base d mb n x B (segN dir op) w1 h1.disk hok hnm).mono ?_
    rintro e w' ⟨rfl, n', B', hn', hd', hst⟩
    obtain ⟨B'', h2, h3⟩ := h1.write hd' hst
    exact ⟨by rw [HS0.out], n', B'', hn', h2, (Step2.grown A B hg).trans h3⟩
  have HCELL : Hid (∀ w2, (∃ n' B', n' ≤ n ∧ LogAt w2 base d mb n' (x.sync (segN dir op)).2 p dir cp segs op A B' ∧ Step2 w w2 A B A B') → w2.cell? ⟨p, 0, none⟩ = some (.pointer (some ⟨d, 0, none⟩)) ∧ w2.cell? ⟨p, 4, none⟩ = some (.int .i64 (op : Int)) ∧ w2.cell? ⟨q, 0, none⟩ = some (.pointer (some ⟨p, 0, none⟩))) := by
    rintro w2 ⟨n', B', _, h2, h3⟩
    obtain ⟨a2, c2, hW2, _⟩ := h2.wal
    exact ⟨hW2.cells.1, hW2.cells.2.2.2.2, cell_kept h3.kept HQ.out.lt (fun h => h.elim hqA.1 hqA.2) cq⟩
  clear h hW hq hs0
  go_enter Tryz.func51, Tryz.ntmps51
  go_wp2_with fail
  go_region_held3 (fun W => W.cell? ⟨q, 0, none⟩ = some (.pointer (some ⟨p, 0, none⟩)) ∧ W.cell? ⟨p, 0, none⟩ = some (.pointer (some ⟨d, 0, none⟩)) ∧ W.cell? ⟨p, 4, none⟩ = some (.int .i64 (op : Int))) (go_keep) (first
    | (go_at_call 54; refine HSG.out.mono ?_; rintro e w1 ⟨rfl, hg1⟩; have HG1 : Hid (w.grownBy w1 none) := HGD.out.trans hg1; have c0' := (HW.out.kept HG1.out (by simp)).cells.1; have c4' := (HW.out.kept HG1.out (by simp)).cells.2.2.2.2; have cq' : w1.cell? ⟨q, 0, none⟩ = some (.pointer (some ⟨p, 0, none⟩)) := HG1.out.cell cq (by simp); clear hg1)
    | (go_at_call 53; refine (HSY.out _ HG1.out).mono ?_; rintro e w2 ⟨rfl, hx2⟩; have HX2 : Hid (∃ n' B', n' ≤ n ∧ LogAt w2 base d mb n' (x.sync (segN dir op)).2 p dir cp segs op A B' ∧ Step2 w w2 A B A B') := hx2; obtain ⟨c0'', c4'', cq''⟩ := HCELL.out w2 hx2; clear hx2)
    | (go_at_call 52; refine (HD0 _).mono ?_; rintro e w3 ⟨rfl, rfl⟩))
  all_goals go_wp2
  all_goals go_end0
  all_goals exact ⟨rfl, HX2.out⟩
def SyncOut (w : World) (base d mb n : Nat) (x : DSt) (p : Nat) (dir cp : ByteArray) (segs : List Nat) (op : Nat) (A B : Nat → Prop) (e : Ending) (w' : World) : Prop := e = .returned (.int .i64 0) ∧ ∃ n' B', n' ≤ n ∧ LogAt w' base d mb n' (syncX x dir segs op) p dir cp segs op A B' ∧ Step2 w w' A B A B'
set_option maxHeartbeats 8000000 in
theorem w_sync (base d mb n : Nat) (x : DSt) (p : Nat) (dir cp : ByteArray) (segs : List Nat) (op : Nat) (A B : Nat → Prop) (w : World) (hdir : dirB dir = true) (ht : Tab w) (h : LogAt w base d mb n x p dir cp segs op A B) (hok : x.ok) (hop : op < 99999999) (hsg : segs.length ≤ 4194304) (hs0 : isOpen segs op = true → (x.sync (segN dir op)).1 = 0) :
    Calls Tryz.prog 19 #[.pointer (some ⟨p, 0, none⟩)] w (SyncOut w base d mb n x p dir cp segs op A B) := by
  have hg0 : w.grownBy (w.alloc (.cells #[.pointer (some ⟨p, 0, none⟩)] 36)) none := World.grownBy_alloc w _ none
  have hL0 := h.grown hg0
  have HL : Hid (LogAt w base d mb n x p dir cp segs op A B) := h
  have HT : Hid (Tab w) := ht
  have HS0 : Hid (isOpen segs op = true → (x.sync (segN dir op)).1 = 0) := hs0
  have HG0 : Hid (w.grownBy (w.alloc (.cells #[.pointer (some ⟨p, 0, none⟩)] 36)) none) := hg0
  obtain ⟨a, c, hW, hso, _⟩ := hL0.wal
  have HHF : Hid (Calls Tryz.prog 50 #[.pointer (some ⟨p, 0, none⟩)] (w.alloc (.cells #[.pointer (some ⟨p, 0, none⟩)] 36)) fun e w' => e = .returned (.bool (isOpen segs op)) ∧ ∃ k, w' = (w.alloc (.cells #[.pointer (some ⟨p, 0, none⟩)] 36)).drewN k) := w_hasFile p d dir cp a c segs op _ hW hso.rd (by omega)
  have hmf : ∀ (fn : Fn) (first cap : Array Value) (w : World), (Instr.makeFunc fn first cap).run Tryz.prog w = .ok (.func fn first cap) w := fun _ _ _ _ => rfl
  have hs1 : ∀ (w : World) o, (w.alloc o).heap.size = w.heap.size + 1 := fun w o => Array.size_push _
  clear h ht hg0 hL0 hW hso hs0
  go_enter Tryz.func19, Tryz.ntmps19
  go_wp2_with fail
  refine HHF.out.mono ?_
  rintro e w1 ⟨rfl, kq, rfl⟩
  obtain ⟨W3, eW3⟩ : ∃ W3, W3 = (w.alloc (.cells #[.pointer (some ⟨p, 0, none⟩)] 36)).drewN kq := ⟨_, rfl⟩
  have hg3 : w.grownBy W3 none := by rw [eW3]; exact gb_drewR HG0.out kq
  rw [← eW3]
  cases ho : isOpen segs op with
  | false =>
    have HX : Hid (SyncOut w base d mb n x p dir cp segs op A B (.returned (.int .i64 0)) W3) := by
      refine ⟨rfl, n, B, Nat.le_refl _, ?_, Step2.grown A B hg3⟩
      unfold syncX
      rw [if_neg (by rw [ho]; simp)]
      exact HL.out.grown hg3
    clear hg3 eW3 HHF
    go_wp2
    go_ret
    exact HX.out
  | true =>
    obtain ⟨W4, eW4⟩ : ∃ W4, W4 = W3.alloc (.cells #[.int .i64 0] 37) := ⟨_, rfl⟩
    have hz3 : W3.heap.size = w.heap.size + 1 := by rw [eW3]; exact hs1 _ _
    have hz4 : W4.heap.size = w.heap.size + 2 := by rw [eW4, hs1, hz3]
    have hgw4 : w.grownBy W4 none := by rw [eW4]; exact hg3.trans (World.grownBy_alloc _ _ none)
    have hq4 : W4.rowIs w.heap.size 36 1 (fun _ => .pointer (some ⟨p, 0, none⟩)) := by
      rw [eW4, eW3]
      exact World.rowIs.alloc (w := (w.alloc (.cells #[.pointer (some ⟨p, 0, none⟩)] 36)).drewN kq) ((row1 w (.pointer (some ⟨p, 0, none⟩)) 36).of_block rfl) _
    have hs4 : W4.rowIs (w.heap.size + 1) 37 1 (fun _ => .int .i64 0) := by
      have := row1 W3 (.int .i64 0) 37
      rw [hz3] at this
      rw [eW4]
      exact this
    have hold : ∀ k, w.heap.size ≤ k → ¬ A k ∧ ¬ B k := fun k hk => ⟨fun ha => by have := HL.out.ltA k ha; omega, fun hb => by have := HL.out.ltB k hb; omega⟩
    have HC := w_caught51 #[.pointer (some ⟨w.heap.size, 0, none⟩)] (fun w2 => ∃ n' B', n' ≤ n ∧ LogAt w2 base d mb n' (x.sync (segN dir op)).2 p dir cp segs op A B' ∧ Step2 W4 w2 A B A B') W3 (by
      rw [← eW4, hz3]
      refine (w_sync1 base d mb n x p w.heap.size dir cp segs op A B W4 hdir (HT.out.grown hgw4) (HL.out.grown hgw4) hok hop (HS0.out ho) hq4 (hold _ (Nat.le_refl _))).mono ?_
      rintro e w2 ⟨rfl, n', B', h1, h2, h3⟩
      refine ⟨rfl, ⟨n', B', h1, h2, h3⟩, ?_⟩
      have hs5 := hs4.of_block (h3.kept.block _ hs4.lt (fun h => h.elim (hold _ (by omega)).1 (hold _ (by omega)).2))
      exact ⟨hs5.cell (i := 0) (by omega), hs5.frozen 0⟩)
    rw [hz3] at HC
    have HC : Hid (Calls Tryz.prog 43 #[.func (.func 51) #[] #[.pointer (some ⟨w.heap.size, 0, none⟩)]] W3 fun e w' => e = .returned (.int .i64 0) ∧ ∃ w2, (∃ n' B', n' ≤ n ∧ LogAt w2 base d mb n' (x.sync (segN dir op)).2 p dir cp segs op A B' ∧ Step2 W4 w2 A B A B') ∧ w' = w2.setCell ⟨w.heap.size + 1, 0, none⟩ (.int .i64 0)) := HC
    have HFIN : Hid (∀ w2, (∃ n' B', n' ≤ n ∧ LogAt w2 base d mb n' (x.sync (segN dir op)).2 p dir cp segs op A B' ∧ Step2 W4 w2 A B A B') → SyncOut w base d mb n x p dir cp segs op A B (.returned (.int .i64 0)) (w2.setCell ⟨w.heap.size + 1, 0, none⟩ (.int .i64 0))) := by
      rintro w2 ⟨n', B', h1, h2, h3⟩
      refine ⟨rfl, n', B', h1, ?_, ((Step2.grown A B hgw4).trans h3).cell (by omega)⟩
      unfold syncX
      rw [if_pos ho]
      exact (h2.cell37 (hold _ (by omega)).1 (fun hb => (hold _ (by omega)).2 (h3.oldB _ (by rw [hz4]; omega) hb))).1
    clear hz3 hz4 hgw4 hq4 hs4 hold eW3 eW4 hg3 HHF
    go_wp2_with fail
    refine HC.out.mono ?_
    rintro e w3 ⟨rfl, w2, hx, rfl⟩
    have HX : Hid (SyncOut w base d mb n x p dir cp segs op A B (.returned (.int .i64 0)) (w2.setCell ⟨w.heap.size + 1, 0, none⟩ (.int .i64 0))) := HFIN.out w2 hx
    clear hx HC HFIN
    go_wp2
    go_ret
    exact HX.out
end Go.Proofs.YtbhffjeoakalbaaGreatDoor
