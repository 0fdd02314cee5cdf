/- Several texts in one: Dk21, Dk22, Dk23. -/
import Derived.Test.YtgpgkpciajajcaaGreatDoorGae
/- Package disk: Delete; Sync and Rename of a disk that is armed. (Printed by mk_del.py.) -/
namespace Go.Proofs.YtgpgkpciajajcaaGreatDoor
open Go.RowKit Go.Maps
set_option linter.unusedVariables false
set_option maxRecDepth 20000

set_option maxHeartbeats 2000000 in
theorem d_writeGo61 (base d mb n : Nat) (lands off : Bool) (ah kp wn : Int) (F : ByteArray → Option Nat) (G : Nat → FD) (caps : Array Value) (P : World → Prop) (w : World) (h : DiskIs w base d mb n off false ah kp wn F G) (hw : 0 ≤ wn ∧ wn ≤ 1000000000)
    (hcl : ∀ w1, DiskIs w1 base d mb n off false ah kp (wn + 1) F G → Kept w w1 (fun k => k = d) → Calls Tryz.prog 167 caps w1 fun e w' => e = .returned (.tuple #[]) ∧ P w') :
    Calls Tryz.prog 136 #[.pointer (some ⟨d, 0, none⟩), .bool lands, .func (.func 167) #[] caps] w fun e w' => e = .returned (.int .i64 0) ∧ P w' := by
  obtain ⟨c0, c1, c2, c3, c4, c5⟩ := h.row.cells
  have f5 := h.row.frozen 5
  have hr1 : DRow (w.setCell ⟨d, 5, none⟩ (.int .u64 (wn + 1))) d mb off false ah kp (wn + 1) := drow_set h.row 5 _ (six rfl rfl rfl rfl rfl rfl)
  have HCL : Hid (Calls Tryz.prog 167 caps (w.setCell ⟨d, 5, none⟩ (.int .u64 (wn + 1))) fun e w' => e = .returned (.tuple #[]) ∧ P w') := hcl _ (h.rowed hr1 kept_set) kept_set
  have hwb : 0 ≤ wn + 1 ∧ wn + 1 ≤ 1000000001 := by omega
  clear h hcl hr1 c0 c1 c3 c4
  go_enter Tryz.func136, Tryz.ntmps136
  go_wp2_with fail
  refine HCL.out.mono ?_
  rintro e w' ⟨rfl, hp⟩
  have HP : Hid (P w') := hp
  clear hp
  go_wp2
  go_ret
  exact ⟨rfl, HP.out⟩
set_option maxHeartbeats 2000000 in
theorem d_writeArmed61 (base d mb n : Nat) (lands off : Bool) (ah kp wn : Int) (F : ByteArray → Option Nat) (G : Nat → FD) (caps : Array Value) (P : World → Prop) (w : World) (h : DiskIs w base d mb n off true ah kp wn F G) (hw : 0 ≤ wn ∧ wn ≤ 1000000000) (ha : 0 < ah ∧ ah ≤ 9223372036854775807)
    (hcl : ∀ w1, DiskIs w1 base d mb n off true (ah - 1) kp (wn + 1) F G → Kept w w1 (fun k => k = d) → Calls Tryz.prog 167 caps w1 fun e w' => e = .returned (.tuple #[]) ∧ P w') :
    Calls Tryz.prog 136 #[.pointer (some ⟨d, 0, none⟩), .bool lands, .func (.func 167) #[] caps] w fun e w' => e = .returned (.int .i64 0) ∧ P w' := by
  obtain ⟨c0, c1, c2, c3, c4, c5⟩ := h.row.cells
  have f5 := h.row.frozen 5
  have f3 := h.row.frozen 3
  have hr1 : DRow (w.setCell ⟨d, 5, none⟩ (.int .u64 (wn + 1))) d mb off true ah kp (wn + 1) := drow_set h.row 5 _ (six rfl rfl rfl rfl rfl rfl)
  have hr2 : DRow ((w.setCell ⟨d, 5, none⟩ (.int .u64 (wn + 1))).setCell ⟨d, 3, none⟩ (.int .i64 (ah - 1))) d mb off true (ah - 1) kp (wn + 1) := drow_set hr1 3 _ (six rfl rfl rfl rfl rfl rfl)
  have hk2 : Kept w ((w.setCell ⟨d, 5, none⟩ (.int .u64 (wn + 1))).setCell ⟨d, 3, none⟩ (.int .i64 (ah - 1))) (fun k => k = d) := kept_set.trans kept_set (fun k _ hk => hk)
  have HCL : Hid (Calls Tryz.prog 167 caps ((w.setCell ⟨d, 5, none⟩ (.int .u64 (wn + 1))).setCell ⟨d, 3, none⟩ (.int .i64 (ah - 1))) fun e w' => e = .returned (.tuple #[]) ∧ P w') := hcl _ (h.rowed hr2 hk2) hk2
  have hwb : 0 ≤ wn + 1 ∧ wn + 1 ≤ 1000000001 := by omega
  have q0 : (ah == 0) = false := by simp; omega
  have hab : 0 ≤ ah - 1 ∧ ah - 1 ≤ 9223372036854775807 := by omega
  clear h hcl hr1 hr2 hk2 c0 c1 c4
  go_enter Tryz.func136, Tryz.ntmps136
  go_wp2_with fail
  refine HCL.out.mono ?_
  rintro e w' ⟨rfl, hp⟩
  have HP : Hid (P w') := hp
  clear hp
  go_wp2
  go_ret
  exact ⟨rfl, HP.out⟩
def box2 (w : World) (d : Nat) (s : ByteArray) : World := (w.alloc (.cells #[.pointer (some ⟨d, 0, none⟩)] 23)).alloc (.cells #[.string s] 9)
theorem box2_facts (w : World) (d : Nat) (s : ByteArray) : w.grownBy (box2 w d s) none ∧ (box2 w d s).rowIs w.heap.size 23 1 (fun _ => .pointer (some ⟨d, 0, none⟩)) ∧ (box2 w d s).rowIs (w.heap.size + 1) 9 1 (fun _ => .string s) := by
  have hs1 : ∀ (w : World) o, (w.alloc o).heap.size = w.heap.size + 1 := fun w o => Array.size_push _
  have g1 := World.grownBy_alloc w (.cells #[.pointer (some ⟨d, 0, none⟩)] 23) none
  have g2 := World.grownBy_alloc (w.alloc (.cells #[.pointer (some ⟨d, 0, none⟩)] 23)) (.cells #[.string s] 9) none
  refine ⟨g1.trans g2, ?_, ?_⟩
  · have r := World.rowIs_alloc w #[.pointer (some ⟨d, 0, none⟩)] 23 (fun _ => .pointer (some ⟨d, 0, none⟩)) (one_cell _)
    exact r.of_block (g2.block w.heap.size r.lt (by simp))
  · have r := World.rowIs_alloc (w.alloc (.cells #[.pointer (some ⟨d, 0, none⟩)] 23)) #[.string s] 9 (fun _ => .string s) (one_cell _)
    rw [hs1] at r
    exact r
/-- A file is gone. -/
theorem DiskIs.gone {w w' : World} {base d mb n n' : Nat} {off set : Bool} {ah kp wn : Int} {F : ByteArray → Option Nat} {G : Nat → FD} {s : ByteArray} (h : DiskIs w base d mb n off set ah kp wn F G) (hm : MapIs w' mb n' (setF F s none)) (hk : Kept w w' (fun k => k = mb)) :
    DiskIs w' base d mb n' off set ah kp wn (setF F s none) G := by
  have hdm : d ≠ mb := map_ne h.row h.map
  have hold : ∀ x c, setF F s none x = some c → F x = some c := by
    intro x c hx
    by_cases e : x = s
    · subst e; rw [setF_same] at hx; cases hx
    · rw [setF_other _ _ e] at hx; exact hx
  refine ⟨h.row.of_block (hk.block d h.row.lt hdm), hm, fun x c hx => ?_, fun x y c hx hy => h.inj x y c (hold x c hx) (hold y c hy), fun x y c c' hx hy hne => h.apart x y c c' (hold x c hx) (hold y c' hy) hne, h.hd, h.hmb⟩
  have hy := hold x c hx
  have hl := h.lt x c hy
  exact ⟨FIs.stay (h.file x c hy).1 (hk.block c hl.1 hl.2.2) (fun z hz => hk.block z.block (h.slc hy hz).2.1 (h.slc hy hz).2.2.2.1), (h.file x c hy).2⟩
set_option maxHeartbeats 4000000 in
theorem d_del1 (base d mb n B3 B4 : Nat) (off set : Bool) (ah kp wn : Int) (F : ByteArray → Option Nat) (G : Nat → FD) (s : ByteArray) (w : World) (h : DiskIs w base d mb n off set ah kp wn F G) (hss : s.size ≤ 64)
    (hB3 : w.rowIs B3 23 1 (fun _ => .pointer (some ⟨d, 0, none⟩))) (hB4 : w.rowIs B4 9 1 (fun _ => .string s)) :
    Calls Tryz.prog 167 #[.pointer (some ⟨B3, 0, none⟩), .pointer (some ⟨B4, 0, none⟩)] w fun e w' => e = .returned (.tuple #[]) ∧ DiskIs w' base d mb n off set ah kp wn (setF F s none) G ∧ Kept w w' (fun k => k = mb) := by
  obtain ⟨c0, c1, c2, c3, c4, c5⟩ := h.row.cells
  have p3 : w.cell? ⟨B3, 0, none⟩ = some (.pointer (some ⟨d, 0, none⟩)) := hB3.cell (i := 0) (by omega)
  have p4 : w.cell? ⟨B4, 0, none⟩ = some (.string s) := hB4.cell (i := 0) (by omega)
  obtain ⟨w1, hdel, hm1, hg1⟩ := h.drew.map.del s hss 0
  have hk1 : Kept w w1 (fun k => k = mb) := Kept.of (show w.grownBy w1 (some mb) from ⟨hg1.os, hg1.tape, hg1.output, hg1.size, hg1.block⟩) (fun k hk => by cases hk; rfl)
  have HE : Hid (DiskIs w1 base d mb n off set ah kp wn (setF F s none) G ∧ Kept w w1 (fun k => k = mb)) := ⟨h.gone hm1 hk1, hk1⟩
  clear h hB3 hB4 hm1 hg1 hk1 c1 c2 c3 c4 c5
  go_enter Tryz.func167, Tryz.ntmps167
  go_wp2_with fail
  go_region
  all_goals go_wp2
  all_goals go_end0
  all_goals exact ⟨rfl, HE.out.1, HE.out.2⟩
set_option maxHeartbeats 4000000 in
theorem v_deleteBy (base d mb n b : Nat) (set : Bool) (ah kp wn : Int) (F : ByteArray → Option Nat) (G : Nat → FD) (s : ByteArray) (R : Int → World → Prop) (w : World) (h : DiskIs w base d mb n false set ah kp wn F G) (hns : nameB s = true) (hs : F s = some b)
    (hw : ∀ W, (box2 w d s).grownBy W none → Calls Tryz.prog 136 #[.pointer (some ⟨d, 0, none⟩), .bool false, .func (.func 167) #[] #[.pointer (some ⟨w.heap.size, 0, none⟩), .pointer (some ⟨w.heap.size + 1, 0, none⟩)]] W fun e w' => ∃ c, e = .returned (.int .i64 c) ∧ R c w') :
    Calls Tryz.prog 141 #[.pointer (some ⟨d, 0, none⟩), .string s] w fun e w' => ∃ c, e = .returned (.int .i64 c) ∧ R c w' := by
  obtain ⟨hg, r3, r4⟩ := box2_facts w d s
  have hss := nameB_size hns
  have hd4 := h.kept hg
  have HF : Hid (Calls Tryz.prog 135 #[.pointer (some ⟨d, 0, none⟩), .string s] (box2 w d s) fun e w' => e = .returned (.tuple #[.pointer (some ⟨b, 0, none⟩), .int .i64 0]) ∧ (box2 w d s).grownBy w' none ∧ w'.cell? ⟨w.heap.size, 0, none⟩ = some (.pointer (some ⟨d, 0, none⟩))) := by
    have := d_find d mb n false set ah kp wn F s (box2 w d s) hd4.row hd4.map (by omega)
    rw [show findP false F s = some b by simp [findP, hns, hs], show findC false F s = 0 by simp [findC, hns, hs]] at this
    refine this.mono ?_
    rintro e w' ⟨rfl, hg'⟩
    exact ⟨rfl, hg', hg'.cell (r3.cell (i := 0) (by omega)) (by simp)⟩
  have HW : Hid (∀ W, (box2 w d s).grownBy W none → Calls Tryz.prog 136 #[.pointer (some ⟨d, 0, none⟩), .bool false, .func (.func 167) #[] #[.pointer (some ⟨w.heap.size, 0, none⟩), .pointer (some ⟨w.heap.size + 1, 0, none⟩)]] W fun e w' => ∃ c, e = .returned (.int .i64 c) ∧ R c w') := hw
  unfold box2 at HF HW
  clear h hg r3 r4 hw hd4 hs
  go_enter Tryz.func141, Tryz.ntmps141
  go_wp2_with fail
  refine HF.out.mono ?_
  rintro e w5 ⟨rfl, hg5, c5⟩
  have HG5 : Hid (((w.alloc (.cells #[.pointer (some ⟨d, 0, none⟩)] 23)).alloc (.cells #[.string s] 9)).grownBy w5 none) := hg5
  clear hg5
  go_wp2_with fail
  refine (HW.out _ HG5.out).mono ?_
  rintro e w' ⟨c, rfl, hR⟩
  have HR : Hid (R c w') := hR
  clear hR
  go_wp2
  go_ret
  exact ⟨c, rfl, HR.out⟩
theorem v_deleteLost (base d mb n : Nat) (kp wn : Int) (V : Cont) (B : Nat → Prop) (s : ByteArray) (Z : List Int) (Y : Nat) (w : World) (h : DV w base d mb n false true 0 kp wn V B) (hns : nameB s = true) (hs : V s = some (Z, Y)) (hw : 0 ≤ wn ∧ wn ≤ 1000000000) (hk : -9223372036854775808 ≤ kp ∧ kp ≤ 9223372036854775807) :
    Calls Tryz.prog 141 #[.pointer (some ⟨d, 0, none⟩), .string s] w fun e w' => e = .returned (.int .i64 60) ∧ DV w' base d mb n true false 0 0 (wn + 1) (fun t => (V t).map (cutV kp)) B ∧ Step w w' B B := by
  obtain ⟨F, G, hd, hv, hB⟩ := h
  obtain ⟨b, hF⟩ : ∃ b, F s = some b := by
    rw [hv s] at hs
    cases hF : F s with
    | none => rw [hF] at hs; cases hs
    | some b => exact ⟨b, rfl⟩
  obtain ⟨hg, _⟩ := box2_facts w d s
  refine (v_deleteBy base d mb n b true 0 kp wn F G s (fun c w' => c = 60 ∧ DV w' base d mb n true false 0 0 (wn + 1) (fun t => (V t).map (cutV kp)) B ∧ Step w w' B B) w hd hns hF ?_).mono ?_
  · intro W hgW
    refine (d_writeLost base d mb n false kp wn F G _ W (hd.kept (hg.trans hgW)) hw hk).mono ?_
    rintro e w' ⟨rfl, hd', hk'⟩
    obtain ⟨h1, h2⟩ := DV.cut (off := false) (set := true) (ah := 0) (kp := kp) (wn := wn) hd' hv hB hk'
    exact ⟨60, rfl, rfl, h1, (Step.grown B (hg.trans hgW)).trans h2⟩
  · rintro e w' ⟨c, rfl, rfl, hP⟩
    exact ⟨rfl, hP⟩
theorem DV.gone {w' : World} {base d mb n : Nat} {off set : Bool} {ah kp wn : Int} {V : Cont} {B : Nat → Prop} {s : ByteArray} {F : ByteArray → Option Nat} {G : Nat → FD} (hd' : DiskIs w' base d mb n off set ah kp wn (setF F s none) G) (hv : ∀ s, V s = (F s).map fun b => ((G b).zs, (G b).syn)) (hB : ∀ k, OwnAll d mb F G k → B k) : DV w' base d mb n off set ah kp wn (setV V s none) B := by
  refine ⟨_, G, hd', fun x => ?_, fun k hk => ?_⟩
  · by_cases e : x = s
    · subst e; rw [setV_same, setF_same]; rfl
    · rw [setV_other _ _ e, setF_other _ _ e]; exact hv x
  · rcases hk with e | e | ⟨x, c, hx, e⟩
    · exact hB k (.inl e)
    · exact hB k (.inr (.inl e))
    · by_cases e2 : x = s
      · subst e2; rw [setF_same] at hx; cases hx
      · rw [setF_other _ _ e2] at hx; exact hB k (.inr (.inr ⟨x, c, hx, e⟩))
theorem v_delete (base d mb n : Nat) (ah kp wn : Int) (V : Cont) (B : Nat → Prop) (s : ByteArray) (Z : List Int) (Y : Nat) (w : World) (h : DV w base d mb n false false ah kp wn V B) (hns : nameB s = true) (hs : V s = some (Z, Y)) (hw : 0 ≤ wn ∧ wn ≤ 1000000000) :
    Calls Tryz.prog 141 #[.pointer (some ⟨d, 0, none⟩), .string s] w fun e w' => e = .returned (.int .i64 0) ∧ DV w' base d mb n false false ah kp (wn + 1) (setV V s none) B ∧ Step w w' B B := by
  obtain ⟨F, G, hd, hv, hB⟩ := h
  obtain ⟨b, hF⟩ : ∃ b, F s = some b := by
    rw [hv s] at hs
    cases hF : F s with
    | none => rw [hF] at hs; cases hs
    | some b => exact ⟨b, rfl⟩
  obtain ⟨hg, r3, r4⟩ := box2_facts w d s
  refine (v_deleteBy base d mb n b false ah kp wn F G s (fun c w' => c = 0 ∧ DV w' base d mb n false false ah kp (wn + 1) (setV V s none) B ∧ Step w w' B B) w hd hns hF ?_).mono ?_
  · intro W hgW
    have hdW := hd.kept (hg.trans hgW)
    refine (d_writeGo61 base d mb n false false ah kp wn F G _ (fun w' => DV w' base d mb n false false ah kp (wn + 1) (setV V s none) B ∧ Step w w' B B) W hdW hw ?_).mono ?_
    · intro w1 h1 hk1
      have k3 : W.rowIs w.heap.size 23 1 (fun _ => .pointer (some ⟨d, 0, none⟩)) := r3.of_block (hgW.block _ r3.lt (by simp))
      have k4 : W.rowIs (w.heap.size + 1) 9 1 (fun _ => .string s) := r4.of_block (hgW.block _ r4.lt (by simp))
      refine (d_del1 base d mb n _ _ false false ah kp (wn + 1) F G s w1 h1 (nameB_size hns) (k3.of_block (hk1.block _ k3.lt (row_ne k3 hdW.row (by decide)))) (k4.of_block (hk1.block _ k4.lt (row_ne k4 hdW.row (by decide))))).mono ?_
      rintro e w' ⟨rfl, hd', hk'⟩
      exact ⟨rfl, DV.gone hd' hv hB, ((Step.grown B (hg.trans hgW)).trans ⟨hk1.mono (fun k _ hk => hB k (.inl hk)), fun k _ hk => hk⟩).trans ⟨hk'.mono (fun k _ hk => hB k (.inr (.inl hk))), fun k _ hk => hk⟩⟩
    · rintro e w' ⟨rfl, hP⟩
      exact ⟨0, rfl, rfl, hP⟩
  · rintro e w' ⟨c, rfl, rfl, hP⟩
    exact ⟨rfl, hP⟩
theorem v_deleteArmed (base d mb n : Nat) (ah kp wn : Int) (V : Cont) (B : Nat → Prop) (s : ByteArray) (Z : List Int) (Y : Nat) (w : World) (h : DV w base d mb n false true ah kp wn V B) (hns : nameB s = true) (hs : V s = some (Z, Y)) (hw : 0 ≤ wn ∧ wn ≤ 1000000000) (ha : 0 < ah ∧ ah ≤ 9223372036854775807) :
    Calls Tryz.prog 141 #[.pointer (some ⟨d, 0, none⟩), .string s] w fun e w' => e = .returned (.int .i64 0) ∧ DV w' base d mb n false true (ah - 1) kp (wn + 1) (setV V s none) B ∧ Step w w' B B := by
  obtain ⟨F, G, hd, hv, hB⟩ := h
  obtain ⟨b, hF⟩ : ∃ b, F s = some b := by
    rw [hv s] at hs
    cases hF : F s with
    | none => rw [hF] at hs; cases hs
    | some b => exact ⟨b, rfl⟩
  obtain ⟨hg, r3, r4⟩ := box2_facts w d s
  refine (v_deleteBy base d mb n b true ah kp wn F G s (fun c w' => c = 0 ∧ DV w' base d mb n false true (ah - 1) kp (wn + 1) (setV V s none) B ∧ Step w w' B B) w hd hns hF ?_).mono ?_
  · intro W hgW
    have hdW := hd.kept (hg.trans hgW)
    refine (d_writeArmed61 base d mb n false false ah kp wn F G _ (fun w' => DV w' base d mb n false true (ah - 1) kp (wn + 1) (setV V s none) B ∧ Step w w' B B) W hdW hw ha ?_).mono ?_
    · intro w1 h1 hk1
      have k3 : W.rowIs w.heap.size 23 1 (fun _ => .pointer (some ⟨d, 0, none⟩)) := r3.of_block (hgW.block _ r3.lt (by simp))
      have k4 : W.rowIs (w.heap.size + 1) 9 1 (fun _ => .string s) := r4.of_block (hgW.block _ r4.lt (by simp))
      refine (d_del1 base d mb n _ _ false true (ah - 1) kp (wn + 1) F G s w1 h1 (nameB_size hns) (k3.of_block (hk1.block _ k3.lt (row_ne k3 hdW.row (by decide)))) (k4.of_block (hk1.block _ k4.lt (row_ne k4 hdW.row (by decide))))).mono ?_
      rintro e w' ⟨rfl, hd', hk'⟩
      exact ⟨rfl, DV.gone hd' hv hB, ((Step.grown B (hg.trans hgW)).trans ⟨hk1.mono (fun k _ hk => hB k (.inl hk)), fun k _ hk => hk⟩).trans ⟨hk'.mono (fun k _ hk => hB k (.inr (.inl hk))), fun k _ hk => hk⟩⟩
    · rintro e w' ⟨rfl, hP⟩
      exact ⟨0, rfl, rfl, hP⟩
  · rintro e w' ⟨c, rfl, rfl, hP⟩
    exact ⟨rfl, hP⟩
theorem v_renameArmed (base d mb n : Nat) (ah kp wn : Int) (V : Cont) (B : Nat → Prop) (s t : ByteArray) (Z : List Int) (Y : Nat) (w : World) (h : DV w base d mb n false true ah kp wn V B) (hns : nameB s = true) (hnt : nameB t = true) (hs : V s = some (Z, Y)) (hn : n ≤ 1048576) (hw : 0 ≤ wn ∧ wn ≤ 1000000000) (ha : 0 < ah ∧ ah ≤ 9223372036854775807) :
    Calls Tryz.prog 166 #[.pointer (some ⟨d, 0, none⟩), .string s, .string t] w fun e w' => e = .returned (.int .i64 0) ∧ DV w' base d mb (n + 1) false true (ah - 1) kp (wn + 1) (setV (setV V s none) t (some (Z, Y))) B ∧ Step w w' B B := by
  obtain ⟨F, G, hd, hv, hB⟩ := h
  obtain ⟨b, hF, hZ, hY⟩ : ∃ b, F s = some b ∧ (G b).zs = Z ∧ (G b).syn = Y := by
    rw [hv s] at hs
    cases hF : F s with
    | none => rw [hF] at hs; cases hs
    | some b => rw [hF] at hs; simp only [Option.map_some, Option.some.injEq, Prod.mk.injEq] at hs; exact ⟨b, rfl, hs.1, hs.2⟩
  obtain ⟨hg, r3, r4, r5, _⟩ := box4_facts w d s t
  refine (v_renameBy base d mb n b true ah kp wn F G s t (fun c w' => c = 0 ∧ DV w' base d mb (n + 1) false true (ah - 1) kp (wn + 1) (setV (setV V s none) t (some (Z, Y))) B ∧ Step w w' B B) w hd hns hnt hF ?_).mono ?_
  · intro W p hgW hp
    have hdW := hd.kept (hg.trans hgW)
    refine (d_writeArmed52 base d mb n false false ah kp wn F G _ (fun w' => DV w' base d mb (n + 1) false true (ah - 1) kp (wn + 1) (setV (setV V s none) t (some (Z, Y))) B ∧ Step w w' B B) W hdW hw ha ?_).mono ?_
    · intro w1 h1 hk1
      have k3 : W.rowIs w.heap.size 23 1 (fun _ => .pointer (some ⟨d, 0, none⟩)) := r3.of_block (hgW.block _ r3.lt (by simp))
      have k4 : W.rowIs (w.heap.size + 1) 9 1 (fun _ => .string s) := r4.of_block (hgW.block _ r4.lt (by simp))
      have k5 : W.rowIs (w.heap.size + 1 + 1) 9 1 (fun _ => .string t) := r5.of_block (hgW.block _ r5.lt (by simp))
      refine (d_ren1 base d mb n b _ _ _ p false true (ah - 1) kp (wn + 1) F G s t w1 h1 hF (nameB_size hns) (nameB_size hnt) hn (k3.of_block (hk1.block _ k3.lt (row_ne k3 hdW.row (by decide)))) (k4.of_block (hk1.block _ k4.lt (row_ne k4 hdW.row (by decide)))) (k5.of_block (hk1.block _ k5.lt (row_ne k5 hdW.row (by decide)))) (hp.of_block (hk1.block _ hp.lt (row_ne hp hdW.row (by decide))))).mono ?_
      rintro e w' ⟨rfl, hd', hk'⟩
      refine ⟨rfl, ⟨_, G, hd', fun x => ?_, fun k hk => ?_⟩, ((Step.grown B (hg.trans hgW)).trans ⟨hk1.mono (fun k _ hk => hB k (.inl hk)), fun k _ hk => hk⟩).trans ⟨hk'.mono (fun k _ hk => hB k (.inr (.inl hk))), fun k _ hk => hk⟩⟩
      · by_cases e : x = t
        · subst e; rw [setV_same, setF_same, Option.map_some, hZ, hY]
        · rw [setV_other _ _ e, setF_other _ _ e]
          by_cases e' : x = s
          · subst e'; rw [setV_same, setF_same]; rfl
          · rw [setV_other _ _ e', setF_other _ _ e']; exact hv x
      · rcases hk with e | e | ⟨x, c, hx, e⟩
        · exact hB k (.inl e)
        · exact hB k (.inr (.inl e))
        · have : ∃ y, F y = some c := by
            by_cases e1 : x = t
            · subst e1; rw [setF_same] at hx; obtain rfl := Option.some.inj hx; exact ⟨s, hF⟩
            · rw [setF_other _ _ e1] at hx
              by_cases e2 : x = s
              · subst e2; rw [setF_same] at hx; cases hx
              · rw [setF_other _ _ e2] at hx; exact ⟨x, hx⟩
          obtain ⟨y, hy⟩ := this
          exact hB k (.inr (.inr ⟨y, c, hy, e⟩))
    · rintro e w' ⟨rfl, hP⟩
      exact ⟨0, rfl, rfl, hP⟩
  · rintro e w' ⟨c, rfl, rfl, hP⟩
    exact ⟨rfl, hP⟩
theorem v_syncArmed (base d mb n : Nat) (ah kp wn : Int) (V : Cont) (B : Nat → Prop) (s : ByteArray) (Z : List Int) (Y : Nat) (w : World) (h : DV w base d mb n false true ah kp wn V B) (hnm : nameB s = true) (hs : V s = some (Z, Y)) (hw : 0 ≤ wn ∧ wn ≤ 1000000000) (ha : 0 < ah ∧ ah ≤ 9223372036854775807) :
    Calls Tryz.prog 104 #[.pointer (some ⟨d, 0, none⟩), .string s] w fun e w' => e = .returned (.int .i64 0) ∧ ∃ B', DV w' base d mb n false true (ah - 1) kp (wn + 1) (setV V s (some (Z, Z.length))) B' ∧ Step w w' B B' := by
  obtain ⟨F, G, hd, hv, hB⟩ := h
  obtain ⟨b, hF, hZ, hY⟩ : ∃ b, F s = some b ∧ (G b).zs = Z ∧ (G b).syn = Y := by
    rw [hv s] at hs
    cases hF : F s with
    | none => rw [hF] at hs; cases hs
    | some b => rw [hF] at hs; simp only [Option.map_some, Option.some.injEq, Prod.mk.injEq] at hs; exact ⟨b, rfl, hs.1, hs.2⟩
  have hG : G b = ⟨(G b).a, (G b).c, Z, Y⟩ := by rw [← hZ, ← hY]
  refine (v_syncBy base d mb n b true ah kp wn F G s (fun c w' => c = 0 ∧ ∃ B', DV w' base d mb n false true (ah - 1) kp (wn + 1) (setV V s (some (Z, Z.length))) B' ∧ Step w w' B B') w hd hnm hF ?_).mono ?_
  · intro W p hg hp hpd
    refine (d_writeArmed48 base d mb n false false ah kp wn F G _ (fun w' => ∃ B', DV w' base d mb n false true (ah - 1) kp (wn + 1) (setV V s (some (Z, Z.length))) B' ∧ Step w w' B B') W (hd.kept hg) hw ha ?_).mono ?_
    · intro w1 h1 hk1
      refine (d_sync1 base d mb n b p false true (ah - 1) kp (wn + 1) F G (G b).a (G b).c Z Y s w1 h1 hG hF (kept_cell hk1 hp hpd)).mono ?_
      rintro e w' ⟨rfl, hd', hk'⟩
      obtain ⟨B', h5, h6⟩ := DV.of (f := ⟨(G b).a, (G b).c, Z, Z.length⟩) (s := s) (b := b) hB hv hd' hF (updG_same _ _ _) (fun t ht => rfl) (fun t k ht hk => updG_other _ _ (fun e => ht (hd.inj t s b (by rw [← e]; exact hk) hF))) hk' (fun k hk => .inr (.inr ⟨s, b, hF, .inl hk⟩)) (fun hne => absurd hF hne) (fun x hx => .inl ⟨hF, hx⟩)
      exact ⟨rfl, B', h5, ((Step.grown B hg).trans ⟨hk1.mono (fun k _ hk => hB k (.inl hk)), fun k _ hk => hk⟩).trans h6⟩
    · rintro e w' ⟨rfl, hP⟩
      exact ⟨0, rfl, rfl, hP⟩
  · rintro e w' ⟨c, rfl, rfl, hP⟩
    exact ⟨rfl, hP⟩
end Go.Proofs.YtgpgkpciajajcaaGreatDoor

/- Package disk: what is refused; the disk as a value of its own, call by call. -/
namespace Go.Proofs.YtgpgkpciajajcaaGreatDoor
open Go.RowKit Go.Maps
set_option linter.unusedVariables false
set_option maxRecDepth 20000

/-- Why a file isn't come to: the disk is off, or there is none. -/
def NotThere (off : Bool) (V : Cont) (s : ByteArray) (c : Int) : Prop := (off = true ∧ c = 60) ∨ (off = false ∧ V s = none ∧ c = 62)
theorem findNot (base d mb n : Nat) (off set : Bool) (ah kp wn : Int) (V : Cont) (B : Nat → Prop) (s : ByteArray) (c : Int) (w : World) (h : DV w base d mb n off set ah kp wn V B) (hnm : nameB s = true) (hc : NotThere off V s c) :
    Calls Tryz.prog 135 #[.pointer (some ⟨d, 0, none⟩), .string s] w fun e w' => e = .returned (.tuple #[.pointer none, .int .i64 c]) ∧ w.grownBy w' none := by
  obtain ⟨F, G, hd, hv, hB⟩ := h
  have hss := nameB_size hnm
  have := d_find d mb n off set ah kp wn F s w hd.row hd.map (by omega)
  rcases hc with ⟨rfl, rfl⟩ | ⟨rfl, hV, rfl⟩
  · exact this
  · have hF : F s = none := by
      rw [hv s] at hV
      cases hF : F s with
      | none => rfl
      | some b => rw [hF] at hV; cases hV
    rw [show findP false F s = none by simp [findP, hF], show findC false F s = 62 by simp [findC, hnm, hF]] at this
    exact this
theorem NotThere.ne {off : Bool} {V : Cont} {s : ByteArray} {c : Int} (hc : NotThere off V s c) : (c != 0) = true := by
  rcases hc with ⟨_, rfl⟩ | ⟨_, _, rfl⟩ <;> rfl
set_option maxHeartbeats 2000000 in
theorem v_syncNot (base d mb n : Nat) (off set : Bool) (ah kp wn : Int) (V : Cont) (B : Nat → Prop) (s : ByteArray) (c : Int) (w : World) (h : DV w base d mb n off set ah kp wn V B) (hnm : nameB s = true) (hc : NotThere off V s c) :
    Calls Tryz.prog 104 #[.pointer (some ⟨d, 0, none⟩), .string s] w fun e w' => e = .returned (.int .i64 c) ∧ w.grownBy w' none := by
  have HF : Hid (Calls Tryz.prog 135 #[.pointer (some ⟨d, 0, none⟩), .string s] w fun e w' => e = .returned (.tuple #[.pointer none, .int .i64 c]) ∧ w.grownBy w' none) := findNot base d mb n off set ah kp wn V B s c w h hnm hc
  have q0 := hc.ne
  clear h hc
  go_enter Tryz.func104, Tryz.ntmps104
  go_wp2_with fail
  refine HF.out.mono ?_
  rintro e w1 ⟨rfl, hg1⟩
  have HG1 : Hid (w.grownBy w1 none) := hg1
  clear hg1
  go_wp2
  go_ret
  exact ⟨rfl, HG1.out.trans (World.grownBy_alloc w1 _ none)⟩
set_option maxHeartbeats 2000000 in
theorem v_deleteNot (base d mb n : Nat) (off set : Bool) (ah kp wn : Int) (V : Cont) (B : Nat → Prop) (s : ByteArray) (c : Int) (w : World) (h : DV w base d mb n off set ah kp wn V B) (hnm : nameB s = true) (hc : NotThere off V s c) :
    Calls Tryz.prog 141 #[.pointer (some ⟨d, 0, none⟩), .string s] w fun e w' => e = .returned (.int .i64 c) ∧ w.grownBy w' none := by
  obtain ⟨hg, _⟩ := box2_facts w d s
  have HF : Hid (Calls Tryz.prog 135 #[.pointer (some ⟨d, 0, none⟩), .string s] (box2 w d s) fun e w' => e = .returned (.tuple #[.pointer none, .int .i64 c]) ∧ (box2 w d s).grownBy w' none) := findNot base d mb n off set ah kp wn V B s c _ (h.kept hg) hnm hc
  have q0 := hc.ne
  have HG : Hid (w.grownBy (box2 w d s) none) := hg
  unfold box2 at HF HG
  clear h hc hg
  go_enter Tryz.func141, Tryz.ntmps141
  go_wp2_with fail
  refine HF.out.mono ?_
  rintro e w1 ⟨rfl, hg1⟩
  have HG1 : Hid (w.grownBy w1 none) := HG.out.trans hg1
  clear hg1
  go_wp2
  go_ret
  exact ⟨rfl, HG1.out⟩
set_option maxHeartbeats 4000000 in
theorem v_renameNot (base d mb n : Nat) (off set : Bool) (ah kp wn : Int) (V : Cont) (B : Nat → Prop) (s t : ByteArray) (c : Int) (w : World) (h : DV w base d mb n off set ah kp wn V B) (hns : nameB s = true) (hnt : nameB t = true) (hc : NotThere off V s c) :
    Calls Tryz.prog 166 #[.pointer (some ⟨d, 0, none⟩), .string s, .string t] w fun e w' => e = .returned (.int .i64 c) ∧ w.grownBy w' none := by
  obtain ⟨hg, r3, r4, r5, hsl⟩ := box4_facts w d s t
  have hss := nameB_size hns
  have hst := nameB_size hnt
  have hd4 := h.kept hg
  have HRC : Hid (Calls Tryz.prog 161 #[.pointer (some ⟨d, 0, none⟩), .slice (some ⟨w.heap.size + 1 + 1 + 1, 0, none⟩) 2 2] (box4 w d s t) fun e w' => e = .returned (.int .i64 (reachC off [s, t])) ∧ (box4 w d s t) = w') :=
    d_reach d mb off set ah kp wn _ [s, t] 2 2 _ hd4.row hsl rfl (by omega) (by intro x hx; simp only [List.mem_cons, List.mem_nil_iff, or_false] at hx; rcases hx with rfl | rfl <;> omega)
  have HF : Hid (Calls Tryz.prog 135 #[.pointer (some ⟨d, 0, none⟩), .string s] (box4 w d s t) fun e w' => e = .returned (.tuple #[.pointer none, .int .i64 c]) ∧ (box4 w d s t).grownBy w' none) := findNot base d mb n off set ah kp wn V B s c _ hd4 hns hc
  have q0 := hc.ne
  have HG : Hid (w.grownBy (box4 w d s t) none) := hg
  unfold box4 at HRC HF HG
  cases off with
  | true =>
    obtain rfl : c = 60 := by rcases hc with ⟨_, rfl⟩ | ⟨h0, _⟩; rfl; cases h0
    rw [show reachC true [s, t] = 60 from rfl] at HRC
    clear h hc hg hd4 r3 r4 r5 hsl HF
    go_enter Tryz.func166, Tryz.ntmps166
    go_wp2_with fail
    refine HRC.out.mono ?_
    rintro e w' ⟨rfl, rfl⟩
    go_wp2
    go_ret
    exact ⟨rfl, HG.out⟩
  | false =>
    rw [show reachC false [s, t] = 0 by simp [reachC, hns, hnt]] at HRC
    clear h hc hg hd4 r3 r4 r5 hsl
    go_enter Tryz.func166, Tryz.ntmps166
    go_wp2_with fail
    refine HRC.out.mono ?_
    rintro e w' ⟨rfl, rfl⟩
    go_wp2_with fail
    refine HF.out.mono ?_
    rintro e w5 ⟨rfl, hg5⟩
    have HG5 : Hid (w.grownBy w5 none) := HG.out.trans hg5
    clear hg5
    go_wp2
    go_ret
    exact ⟨rfl, HG5.out.trans (World.grownBy_alloc w5 _ none)⟩
/-- The disk as a value. -/
structure DSt where
  off : Bool
  set : Bool
  ah : Int
  kp : Int
  wn : Int
  V : Cont
def DSt.ok (x : DSt) : Prop := (0 ≤ x.wn ∧ x.wn ≤ 1000000000) ∧ (x.set = true → 0 ≤ x.ah ∧ x.ah ≤ 9223372036854775807) ∧ -9223372036854775808 ≤ x.kp ∧ x.kp ≤ 9223372036854775807
/-- A write of a disk that is on. -/
def DSt.wr (x : DSt) (lands : Bool) (eff : Cont) : Int × DSt :=
  if x.set = false then (0, { x with wn := x.wn + 1, V := eff })
  else if x.ah = 0 then (60, ⟨true, false, 0, 0, x.wn + 1, fun t => ((if lands = true then eff else x.V) t).map (cutV x.kp)⟩)
  else (0, { x with ah := x.ah - 1, wn := x.wn + 1, V := eff })
def DSt.append (x : DSt) (s : ByteArray) (zs : List Int) : Int × DSt :=
  if x.off = true then (60, x) else x.wr true (setV x.V s (some ((oldV x.V s).1 ++ zs, (oldV x.V s).2)))
def DSt.sync (x : DSt) (s : ByteArray) : Int × DSt :=
  if x.off = true then (60, x) else match x.V s with
    | none => (62, x)
    | some p => x.wr false (setV x.V s (some (p.1, p.1.length)))
def DSt.rename (x : DSt) (s t : ByteArray) : Int × DSt :=
  if x.off = true then (60, x) else match x.V s with
    | none => (62, x)
    | some p => x.wr false (setV (setV x.V s none) t (some p))
def DSt.delete (x : DSt) (s : ByteArray) : Int × DSt :=
  if x.off = true then (60, x) else match x.V s with
    | none => (62, x)
    | some _ => x.wr false (setV x.V s none)
def DSt.power (x : DSt) (keep : Int) : DSt := if x.off = true then { x with set := false, ah := 0, kp := 0 } else ⟨true, false, 0, 0, x.wn, fun t => (x.V t).map (cutV keep)⟩
/-- The disk at d has that value. -/
def DS (w : World) (base d mb n : Nat) (x : DSt) (B : Nat → Prop) : Prop := DV w base d mb n x.off x.set x.ah x.kp x.wn x.V B
/-- A call leaves the disk at that value. -/
def Leaves (w : World) (base d mb n : Nat) (r : Int × DSt) (B : Nat → Prop) (e : Ending) (w' : World) : Prop := e = .returned (.int .i64 r.1) ∧ ∃ n' B', n' ≤ n + 1 ∧ DS w' base d mb n' r.2 B' ∧ Step w w' B B'
theorem leaves_same {w w' : World} {base d mb n : Nat} {c : Int} {x : DSt} {B : Nat → Prop} (h : DS w base d mb n x B) (hg : w.grownBy w' none) : Leaves w base d mb n (c, x) B (.returned (.int .i64 c)) w' :=
  ⟨rfl, n, B, Nat.le_succ _, DV.kept h hg, Step.grown B hg⟩
theorem x_rename (base d mb n : Nat) (x : DSt) (B : Nat → Prop) (s t : ByteArray) (w : World) (h : DS w base d mb n x B) (hok : x.ok) (hns : nameB s = true) (hnt : nameB t = true) (hn : n ≤ 1048576) :
    Calls Tryz.prog 166 #[.pointer (some ⟨d, 0, none⟩), .string s, .string t] w (Leaves w base d mb n (x.rename s t) B) := by
  obtain ⟨off, set, ah, kp, wn, V⟩ := x
  obtain ⟨hw, ha, hk⟩ := hok
  unfold DSt.rename
  cases off with
  | true =>
    refine (v_renameNot base d mb n true set ah kp wn V B s t 60 w h hns hnt (.inl ⟨rfl, rfl⟩)).mono ?_
    rintro e w' ⟨rfl, hg⟩
    exact leaves_same h hg
  | false =>
    rw [if_neg (by simp)]
    dsimp only
    cases hV : V s with
    | none =>
      refine (v_renameNot base d mb n false set ah kp wn V B s t 62 w h hns hnt (.inr ⟨rfl, hV, rfl⟩)).mono ?_
      rintro e w' ⟨rfl, hg⟩
      exact leaves_same h hg
    | some p =>
      obtain ⟨Z, Y⟩ := p
      dsimp only
      unfold DSt.wr
      cases set with
      | false =>
        refine (v_rename base d mb n ah kp wn V B s t Z Y w h hns hnt hV hn hw).mono ?_
        rintro e w' ⟨rfl, hd', hst⟩
        exact ⟨rfl, n + 1, B, Nat.le_refl _, hd', hst⟩
      | true =>
        rw [if_neg (by simp)]
        by_cases h0 : ah = 0
        · subst h0
          refine (v_renameLost base d mb n kp wn V B s t Z Y w h hns hnt hV hw hk).mono ?_
          rintro e w' ⟨rfl, hd', hst⟩
          exact ⟨rfl, n, B, Nat.le_succ _, hd', hst⟩
        · rw [if_neg h0]
          have h1 := ha rfl
          refine (v_renameArmed base d mb n ah kp wn V B s t Z Y w h hns hnt hV hn hw (by dsimp only at h1; omega)).mono ?_
          rintro e w' ⟨rfl, hd', hst⟩
          exact ⟨rfl, n + 1, B, Nat.le_refl _, hd', hst⟩
theorem x_append (base d mb n : Nat) (x : DSt) (B : Nat → Prop) (s : ByteArray) (ad : Addr) (zs : List Int) (M cd : Nat) (w : World) (h : DS w base d mb n x B) (hok : x.ok) (hnm : nameB s = true) (hn : n < 1048576) (hr : SRd byteE w (some ad) zs) (hM : zs.length = M) (hby : ∀ z ∈ zs, 0 ≤ z ∧ z ≤ 255) (hlen : (oldV x.V s).1.length + M ≤ 4194304) (hb : base ≤ w.heap.size) (had : ad.block ≠ mb) (hadd : ad.block ≠ d) :
    Calls Tryz.prog 134 #[.pointer (some ⟨d, 0, none⟩), .string s, .slice (some ad) M cd] w (Leaves w base d mb n (x.append s zs) B) := by
  obtain ⟨off, set, ah, kp, wn, V⟩ := x
  obtain ⟨hw, ha, hk⟩ := hok
  have hss := nameB_size hnm
  unfold DSt.append
  cases off with
  | true =>
    refine (v_appendOff base d mb n set ah kp wn V B s (some ad) M cd w h (by omega)).mono ?_
    rintro e w' ⟨rfl, hg⟩
    exact leaves_same h hg
  | false =>
    rw [if_neg (by simp)]
    unfold DSt.wr
    cases set with
    | false =>
      refine (v_append base d mb n ah kp wn V B s ad zs M cd w h hnm hn hw hr hM hby hlen hb had hadd).mono ?_
      rintro e w' ⟨rfl, n', B', hn', hd', hst⟩
      exact ⟨rfl, n', B', hn', hd', hst⟩
    | true =>
      rw [if_neg (by simp)]
      by_cases h0 : ah = 0
      · subst h0
        refine (v_appendCut base d mb n kp wn V B s ad zs M cd w h hk hnm hn hw hr hM hby hlen hb had hadd).mono ?_
        rintro e w' ⟨rfl, n', B', hn', hd', hst⟩
        exact ⟨rfl, n', B', hn', hd', hst⟩
      · rw [if_neg h0]
        have h1 := ha rfl
        refine (v_appendArmed base d mb n ah kp wn V B s ad zs M cd w h (by dsimp only at h1; omega) hnm hn hw hr hM hby hlen hb had hadd).mono ?_
        rintro e w' ⟨rfl, n', B', hn', hd', hst⟩
        exact ⟨rfl, n', B', hn', hd', hst⟩
end Go.Proofs.YtgpgkpciajajcaaGreatDoor

/- Package disk as a value: Off, On, Arm, Read, List. -/
namespace Go.Proofs.YtgpgkpciajajcaaGreatDoor
open Go.RowKit Go.Maps
set_option linter.unusedVariables false
set_option maxRecDepth 20000

theorem d_offOff (d mb : Nat) (set : Bool) (ah kp wn keep : Int) (w : World) (h : DRow w d mb true set ah kp wn) :
    Calls Tryz.prog 11 #[.pointer (some ⟨d, 0, none⟩), .int .i64 keep] w fun e w' => e = .returned (.tuple #[]) ∧ DRow w' d mb true false 0 0 wn ∧ w.grownBy w' (some d) := by
  obtain ⟨c0, c1, c2, c3, c4, c5⟩ := h.cells
  have H : Hid (DRow w d mb true set ah kp wn) := h
  clear h c0 c2 c3 c4 c5
  go_enter Tryz.func11, Tryz.ntmps11
  go_wp2_with fail
  refine (d_disarm d mb true set ah kp wn w H.out).mono ?_
  rintro e w2 ⟨rfl, hr2, hg2⟩
  have HR2 : Hid (DRow w2 d mb true false 0 0 wn ∧ w.grownBy w2 (some d)) := ⟨hr2, hg2⟩
  clear hr2 hg2
  go_wp2
  go_end0
  exact ⟨rfl, HR2.out.1, HR2.out.2⟩
theorem d_armNot (d mb : Nat) (off set : Bool) (ah kp wn ah' kp' : Int) (w : World) (h : DRow w d mb off set ah kp wn) (h0 : ah' < 0) :
    Calls Tryz.prog 17 #[.pointer (some ⟨d, 0, none⟩), .int .i64 ah', .int .i64 kp'] w fun e w' => e = .returned (.tuple #[]) ∧ DRow w' d mb off false 0 0 wn ∧ w.grownBy w' (some d) := by
  have H : Hid (DRow w d mb off set ah kp wn) := h
  have q0 : decide (ah' < 0) = true := by simpa using h0
  clear h
  go_enter Tryz.func17, Tryz.ntmps17
  go_wp2_with fail
  refine (d_disarm d mb off set ah kp wn w H.out).mono ?_
  rintro e w2 ⟨rfl, hr2, hg2⟩
  have HR2 : Hid (DRow w2 d mb off false 0 0 wn ∧ w.grownBy w2 (some d)) := ⟨hr2, hg2⟩
  clear hr2 hg2
  go_wp2
  refine bodyPost_ret (results_none rfl _ _ _) rfl ?_
  exact ⟨rfl, HR2.out.1, HR2.out.2⟩
def DSt.arm (x : DSt) (ah kp : Int) : DSt := if ah < 0 then { x with set := false, ah := 0, kp := 0 } else { x with set := true, ah := ah, kp := kp }
/-- A call without a result leaves the disk at that value. -/
def Leaves0 (w : World) (base d mb n : Nat) (x : DSt) (B : Nat → Prop) (e : Ending) (w' : World) : Prop := e = .returned (.tuple #[]) ∧ DS w' base d mb n x B ∧ Step w w' B B
theorem x_off (base d mb n : Nat) (x : DSt) (B : Nat → Prop) (keep : Int) (w : World) (h : DS w base d mb n x B) (hk : -9223372036854775808 ≤ keep ∧ keep ≤ 9223372036854775807) :
    Calls Tryz.prog 11 #[.pointer (some ⟨d, 0, none⟩), .int .i64 keep] w (Leaves0 w base d mb n (x.power keep) B) := by
  obtain ⟨off, set, ah, kp, wn, V⟩ := x
  unfold DSt.power
  cases off with
  | true =>
    refine (d_offOff d mb set ah kp wn keep w (DV.row h)).mono ?_
    rintro e w' ⟨rfl, hr, hg⟩
    exact ⟨rfl, DV.rowed h hr (Kept.of hg (fun k hk => by cases hk; rfl))⟩
  | false =>
    refine (v_off base d mb n set ah kp wn keep V B w h hk).mono ?_
    rintro e w' ⟨rfl, h1, h2⟩
    exact ⟨rfl, h1, h2⟩
theorem x_on (base d mb n : Nat) (x : DSt) (B : Nat → Prop) (w : World) (h : DS w base d mb n x B) :
    Calls Tryz.prog 13 #[.pointer (some ⟨d, 0, none⟩)] w (Leaves0 w base d mb n { x with off := false } B) := by
  refine (v_on base d mb n x.off x.set x.ah x.kp x.wn x.V B w h).mono ?_
  rintro e w' ⟨rfl, h1, h2⟩
  exact ⟨rfl, h1, h2⟩
theorem x_arm (base d mb n : Nat) (x : DSt) (B : Nat → Prop) (ah kp : Int) (w : World) (h : DS w base d mb n x B) :
    Calls Tryz.prog 17 #[.pointer (some ⟨d, 0, none⟩), .int .i64 ah, .int .i64 kp] w (Leaves0 w base d mb n (x.arm ah kp) B) := by
  unfold DSt.arm
  by_cases h0 : ah < 0
  · rw [if_pos h0]
    refine (d_armNot d mb x.off x.set x.ah x.kp x.wn ah kp w (DV.row h) h0).mono ?_
    rintro e w' ⟨rfl, hr, hg⟩
    exact ⟨rfl, DV.rowed h hr (Kept.of hg (fun k hk => by cases hk; rfl))⟩
  · rw [if_neg h0]
    refine (v_arm base d mb n x.off x.set x.ah x.kp x.wn ah kp x.V B w h (by omega)).mono ?_
    rintro e w' ⟨rfl, h1, h2⟩
    exact ⟨rfl, h1, h2⟩
/-- What Read answers: bytes and an error. -/
def DSt.read (x : DSt) (s : ByteArray) : List Int × Int := if x.off = true then ([], 60) else match x.V s with
  | none => ([], 62)
  | some p => (p.1, 0)
theorem x_read (base d mb n : Nat) (x : DSt) (B : Nat → Prop) (s : ByteArray) (w : World) (h : DS w base d mb n x B) (hnm : nameB s = true) :
    Calls Tryz.prog 133 #[.pointer (some ⟨d, 0, none⟩), .string s] w fun e w' => ∃ a c, e = .returned (.tuple #[.slice a (x.read s).1.length c, .int .i64 (x.read s).2]) ∧ SOwn byteE 5 w' w.heap.size (.slice a (x.read s).1.length c) (x.read s).1.length (x.read s).1 ∧ (∀ z ∈ (x.read s).1, 0 ≤ z ∧ z ≤ 255) ∧ (x.read s).1.length ≤ 4194304 ∧ w.grownBy w' none := by
  obtain ⟨off, set, ah, kp, wn, V⟩ := x
  unfold DSt.read
  cases off with
  | true =>
    refine (v_readNot base d mb n true set ah kp wn V B s 60 w h hnm (.inl ⟨rfl, rfl⟩)).mono ?_
    rintro e w' ⟨rfl, hg⟩
    exact ⟨none, 0, rfl, SOwn.nil 5 _ _, by simp, by simp, hg⟩
  | false =>
    rw [if_neg (by simp)]
    dsimp only
    cases hV : V s with
    | none =>
      refine (v_readNot base d mb n false set ah kp wn V B s 62 w h hnm (.inr ⟨rfl, hV, rfl⟩)).mono ?_
      rintro e w' ⟨rfl, hg⟩
      exact ⟨none, 0, rfl, SOwn.nil 5 _ _, by simp, by simp, hg⟩
    | some p =>
      obtain ⟨Z, Y⟩ := p
      exact v_read base d mb n set ah kp wn V B s Z Y w h hnm hV
/-- The names of a disk that begin so, in order. -/
def NamesOf (V : Cont) (p : ByteArray) (l : List ByteArray) : Prop := l.Nodup ∧ (l.Pairwise fun x y => x.data.toList ≤ y.data.toList) ∧ ∀ s, s ∈ l ↔ (V s).isSome = true ∧ Lib.hasPrefix s.data.toList p.data.toList = true
theorem NamesOf.uniq {V : Cont} {p : ByteArray} {l l' : List ByteArray} (h : NamesOf V p l) (h' : NamesOf V p l') : l = l' := by
  rw [← srt_self h.2.1, ← srt_self h'.2.1]
  exact srt_eq h.1 h'.1 (fun s => (h.2.2 s).trans (h'.2.2 s).symm)
theorem x_list (base d mb n : Nat) (x : DSt) (B : Nat → Prop) (p : ByteArray) (w : World) (h : DS w base d mb n x B) (hon : x.off = false) (hn : n ≤ 4194304) :
    Calls Tryz.prog 24 #[.pointer (some ⟨d, 0, none⟩), .string p] w fun e w' => ∃ a c l, e = .returned (.slice a l.length c) ∧ SOwn strE 9 w' w.heap.size (.slice a l.length c) l.length l ∧ w.grownBy w' none ∧ NamesOf x.V p l ∧ l.length ≤ n := by
  obtain ⟨off, set, ah, kp, wn, V⟩ := x
  obtain rfl : off = false := hon
  refine (v_list base d mb n set ah kp wn V B p w h hn).mono ?_
  rintro e w' ⟨a, c, l, rfl, h1, h2, h3, h4, h5⟩
  refine ⟨a, c, srt l, by rw [srt_len], by rw [srt_len]; exact h1, h2, ⟨srt_nodup h3, srt_pair l, fun s => (srt_mem l s).trans (h5 s)⟩, by rw [srt_len]; exact h4⟩
end Go.Proofs.YtgpgkpciajajcaaGreatDoor

