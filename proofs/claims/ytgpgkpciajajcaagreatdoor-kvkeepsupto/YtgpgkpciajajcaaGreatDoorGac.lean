/- Several texts in one: Dk6, Dk7, Dk8. -/
import Derived.Test.YtgpgkpciajajcaaGreatDoorGab
import Derived.Maps.AppendAt
import Derived.Deep.RegionLaw
/- Package disk: a write, done or cut. (Printed by mk_write.py.) -/
namespace Go.Proofs.YtgpgkpciajajcaaGreatDoor
open Go.RowKit Go.Maps
set_option linter.unusedVariables false
set_option maxRecDepth 20000

theorem drow_set {w : World} {d mb : Nat} {off set : Bool} {ah kp wn : Int} (h : DRow w d mb off set ah kp wn) (i : Nat) (u : Value) {off' set' : Bool} {ah' kp' wn' : Int} (hu : ∀ j, j < 6 → (if j = i then u else DiskF mb off set ah kp wn j) = DiskF mb off' set' ah' kp' wn' j) : DRow (w.setCell ⟨d, i, none⟩ u) d mb off' set' ah' kp' wn' := (h.set i u).congr hu
theorem kept_set {w : World} {d i : Nat} {u : Value} : Kept w (w.setCell ⟨d, i, none⟩ u) (fun k => k = d) := Kept.of (gb_set (g := d) rfl) (fun k hk => by cases hk; rfl)
set_option maxHeartbeats 2000000 in
theorem d_writeGo46 (base d mb n : Nat) (lands off : Bool) (ah kp wn : Int) (F : ByteArray → Option Nat) (G : Nat → FD) (caps : Array Value) (P : World → Prop) (w : World) (h : DiskIs w base d mb n off false ah kp wn F G) (hw : 0 ≤ wn ∧ wn ≤ 1000000000)
    (hcl : ∀ w1, DiskIs w1 base d mb n off false ah kp (wn + 1) F G → Kept w w1 (fun k => k = d) → Calls Tryz.prog 163 caps w1 fun e w' => e = .returned (.tuple #[]) ∧ P w') :
    Calls Tryz.prog 136 #[.pointer (some ⟨d, 0, none⟩), .bool lands, .func (.func 163) #[] caps] w fun e w' => e = .returned (.int .i64 0) ∧ P w' := by
  obtain ⟨c0, c1, c2, c3, c4, c5⟩ := h.row.cells
  have f5 := h.row.frozen 5
  have hr1 : DRow (w.setCell ⟨d, 5, none⟩ (.int .u64 (wn + 1))) d mb off false ah kp (wn + 1) := drow_set h.row 5 _ (six rfl rfl rfl rfl rfl rfl)
  have HCL : Hid (Calls Tryz.prog 163 caps (w.setCell ⟨d, 5, none⟩ (.int .u64 (wn + 1))) fun e w' => e = .returned (.tuple #[]) ∧ P w') := hcl _ (h.rowed hr1 kept_set) kept_set
  have hwb : 0 ≤ wn + 1 ∧ wn + 1 ≤ 1000000001 := by omega
  clear h hcl hr1 c0 c1 c3 c4
  go_enter Tryz.func136, Tryz.ntmps136
  go_wp2_with fail
  refine HCL.out.mono ?_
  rintro e w' ⟨rfl, hp⟩
  have HP : Hid (P w') := hp
  clear hp
  go_wp2
  go_ret
  exact ⟨rfl, HP.out⟩
set_option maxHeartbeats 2000000 in
theorem d_writeArmed46 (base d mb n : Nat) (lands off : Bool) (ah kp wn : Int) (F : ByteArray → Option Nat) (G : Nat → FD) (caps : Array Value) (P : World → Prop) (w : World) (h : DiskIs w base d mb n off true ah kp wn F G) (hw : 0 ≤ wn ∧ wn ≤ 1000000000) (ha : 0 < ah ∧ ah ≤ 9223372036854775807)
    (hcl : ∀ w1, DiskIs w1 base d mb n off true (ah - 1) kp (wn + 1) F G → Kept w w1 (fun k => k = d) → Calls Tryz.prog 163 caps w1 fun e w' => e = .returned (.tuple #[]) ∧ P w') :
    Calls Tryz.prog 136 #[.pointer (some ⟨d, 0, none⟩), .bool lands, .func (.func 163) #[] caps] w fun e w' => e = .returned (.int .i64 0) ∧ P w' := by
  obtain ⟨c0, c1, c2, c3, c4, c5⟩ := h.row.cells
  have f5 := h.row.frozen 5
  have f3 := h.row.frozen 3
  have hr1 : DRow (w.setCell ⟨d, 5, none⟩ (.int .u64 (wn + 1))) d mb off true ah kp (wn + 1) := drow_set h.row 5 _ (six rfl rfl rfl rfl rfl rfl)
  have hr2 : DRow ((w.setCell ⟨d, 5, none⟩ (.int .u64 (wn + 1))).setCell ⟨d, 3, none⟩ (.int .i64 (ah - 1))) d mb off true (ah - 1) kp (wn + 1) := drow_set hr1 3 _ (six rfl rfl rfl rfl rfl rfl)
  have hk2 : Kept w ((w.setCell ⟨d, 5, none⟩ (.int .u64 (wn + 1))).setCell ⟨d, 3, none⟩ (.int .i64 (ah - 1))) (fun k => k = d) := kept_set.trans kept_set (fun k _ hk => hk)
  have HCL : Hid (Calls Tryz.prog 163 caps ((w.setCell ⟨d, 5, none⟩ (.int .u64 (wn + 1))).setCell ⟨d, 3, none⟩ (.int .i64 (ah - 1))) fun e w' => e = .returned (.tuple #[]) ∧ P w') := hcl _ (h.rowed hr2 hk2) hk2
  have hwb : 0 ≤ wn + 1 ∧ wn + 1 ≤ 1000000001 := by omega
  have q0 : (ah == 0) = false := by simp; omega
  have hab : 0 ≤ ah - 1 ∧ ah - 1 ≤ 9223372036854775807 := by omega
  clear h hcl hr1 hr2 hk2 c0 c1 c4
  go_enter Tryz.func136, Tryz.ntmps136
  go_wp2_with fail
  refine HCL.out.mono ?_
  rintro e w' ⟨rfl, hp⟩
  have HP : Hid (P w') := hp
  clear hp
  go_wp2
  go_ret
  exact ⟨rfl, HP.out⟩
set_option maxHeartbeats 2000000 in
theorem d_writeGo48 (base d mb n : Nat) (lands off : Bool) (ah kp wn : Int) (F : ByteArray → Option Nat) (G : Nat → FD) (caps : Array Value) (P : World → Prop) (w : World) (h : DiskIs w base d mb n off false ah kp wn F G) (hw : 0 ≤ wn ∧ wn ≤ 1000000000)
    (hcl : ∀ w1, DiskIs w1 base d mb n off false ah kp (wn + 1) F G → Kept w w1 (fun k => k = d) → Calls Tryz.prog 137 caps w1 fun e w' => e = .returned (.tuple #[]) ∧ P w') :
    Calls Tryz.prog 136 #[.pointer (some ⟨d, 0, none⟩), .bool lands, .func (.func 137) #[] caps] w fun e w' => e = .returned (.int .i64 0) ∧ P w' := by
  obtain ⟨c0, c1, c2, c3, c4, c5⟩ := h.row.cells
  have f5 := h.row.frozen 5
  have hr1 : DRow (w.setCell ⟨d, 5, none⟩ (.int .u64 (wn + 1))) d mb off false ah kp (wn + 1) := drow_set h.row 5 _ (six rfl rfl rfl rfl rfl rfl)
  have HCL : Hid (Calls Tryz.prog 137 caps (w.setCell ⟨d, 5, none⟩ (.int .u64 (wn + 1))) fun e w' => e = .returned (.tuple #[]) ∧ P w') := hcl _ (h.rowed hr1 kept_set) kept_set
  have hwb : 0 ≤ wn + 1 ∧ wn + 1 ≤ 1000000001 := by omega
  clear h hcl hr1 c0 c1 c3 c4
  go_enter Tryz.func136, Tryz.ntmps136
  go_wp2_with fail
  refine HCL.out.mono ?_
  rintro e w' ⟨rfl, hp⟩
  have HP : Hid (P w') := hp
  clear hp
  go_wp2
  go_ret
  exact ⟨rfl, HP.out⟩
set_option maxHeartbeats 2000000 in
theorem d_writeArmed48 (base d mb n : Nat) (lands off : Bool) (ah kp wn : Int) (F : ByteArray → Option Nat) (G : Nat → FD) (caps : Array Value) (P : World → Prop) (w : World) (h : DiskIs w base d mb n off true ah kp wn F G) (hw : 0 ≤ wn ∧ wn ≤ 1000000000) (ha : 0 < ah ∧ ah ≤ 9223372036854775807)
    (hcl : ∀ w1, DiskIs w1 base d mb n off true (ah - 1) kp (wn + 1) F G → Kept w w1 (fun k => k = d) → Calls Tryz.prog 137 caps w1 fun e w' => e = .returned (.tuple #[]) ∧ P w') :
    Calls Tryz.prog 136 #[.pointer (some ⟨d, 0, none⟩), .bool lands, .func (.func 137) #[] caps] w fun e w' => e = .returned (.int .i64 0) ∧ P w' := by
  obtain ⟨c0, c1, c2, c3, c4, c5⟩ := h.row.cells
  have f5 := h.row.frozen 5
  have f3 := h.row.frozen 3
  have hr1 : DRow (w.setCell ⟨d, 5, none⟩ (.int .u64 (wn + 1))) d mb off true ah kp (wn + 1) := drow_set h.row 5 _ (six rfl rfl rfl rfl rfl rfl)
  have hr2 : DRow ((w.setCell ⟨d, 5, none⟩ (.int .u64 (wn + 1))).setCell ⟨d, 3, none⟩ (.int .i64 (ah - 1))) d mb off true (ah - 1) kp (wn + 1) := drow_set hr1 3 _ (six rfl rfl rfl rfl rfl rfl)
  have hk2 : Kept w ((w.setCell ⟨d, 5, none⟩ (.int .u64 (wn + 1))).setCell ⟨d, 3, none⟩ (.int .i64 (ah - 1))) (fun k => k = d) := kept_set.trans kept_set (fun k _ hk => hk)
  have HCL : Hid (Calls Tryz.prog 137 caps ((w.setCell ⟨d, 5, none⟩ (.int .u64 (wn + 1))).setCell ⟨d, 3, none⟩ (.int .i64 (ah - 1))) fun e w' => e = .returned (.tuple #[]) ∧ P w') := hcl _ (h.rowed hr2 hk2) hk2
  have hwb : 0 ≤ wn + 1 ∧ wn + 1 ≤ 1000000001 := by omega
  have q0 : (ah == 0) = false := by simp; omega
  have hab : 0 ≤ ah - 1 ∧ ah - 1 ≤ 9223372036854775807 := by omega
  clear h hcl hr1 hr2 hk2 c0 c1 c4
  go_enter Tryz.func136, Tryz.ntmps136
  go_wp2_with fail
  refine HCL.out.mono ?_
  rintro e w' ⟨rfl, hp⟩
  have HP : Hid (P w') := hp
  clear hp
  go_wp2
  go_ret
  exact ⟨rfl, HP.out⟩
set_option maxHeartbeats 2000000 in
theorem d_writeGo52 (base d mb n : Nat) (lands off : Bool) (ah kp wn : Int) (F : ByteArray → Option Nat) (G : Nat → FD) (caps : Array Value) (P : World → Prop) (w : World) (h : DiskIs w base d mb n off false ah kp wn F G) (hw : 0 ≤ wn ∧ wn ≤ 1000000000)
    (hcl : ∀ w1, DiskIs w1 base d mb n off false ah kp (wn + 1) F G → Kept w w1 (fun k => k = d) → Calls Tryz.prog 185 caps w1 fun e w' => e = .returned (.tuple #[]) ∧ P w') :
    Calls Tryz.prog 136 #[.pointer (some ⟨d, 0, none⟩), .bool lands, .func (.func 185) #[] caps] w fun e w' => e = .returned (.int .i64 0) ∧ P w' := by
  obtain ⟨c0, c1, c2, c3, c4, c5⟩ := h.row.cells
  have f5 := h.row.frozen 5
  have hr1 : DRow (w.setCell ⟨d, 5, none⟩ (.int .u64 (wn + 1))) d mb off false ah kp (wn + 1) := drow_set h.row 5 _ (six rfl rfl rfl rfl rfl rfl)
  have HCL : Hid (Calls Tryz.prog 185 caps (w.setCell ⟨d, 5, none⟩ (.int .u64 (wn + 1))) fun e w' => e = .returned (.tuple #[]) ∧ P w') := hcl _ (h.rowed hr1 kept_set) kept_set
  have hwb : 0 ≤ wn + 1 ∧ wn + 1 ≤ 1000000001 := by omega
  clear h hcl hr1 c0 c1 c3 c4
  go_enter Tryz.func136, Tryz.ntmps136
  go_wp2_with fail
  refine HCL.out.mono ?_
  rintro e w' ⟨rfl, hp⟩
  have HP : Hid (P w') := hp
  clear hp
  go_wp2
  go_ret
  exact ⟨rfl, HP.out⟩
set_option maxHeartbeats 2000000 in
theorem d_writeArmed52 (base d mb n : Nat) (lands off : Bool) (ah kp wn : Int) (F : ByteArray → Option Nat) (G : Nat → FD) (caps : Array Value) (P : World → Prop) (w : World) (h : DiskIs w base d mb n off true ah kp wn F G) (hw : 0 ≤ wn ∧ wn ≤ 1000000000) (ha : 0 < ah ∧ ah ≤ 9223372036854775807)
    (hcl : ∀ w1, DiskIs w1 base d mb n off true (ah - 1) kp (wn + 1) F G → Kept w w1 (fun k => k = d) → Calls Tryz.prog 185 caps w1 fun e w' => e = .returned (.tuple #[]) ∧ P w') :
    Calls Tryz.prog 136 #[.pointer (some ⟨d, 0, none⟩), .bool lands, .func (.func 185) #[] caps] w fun e w' => e = .returned (.int .i64 0) ∧ P w' := by
  obtain ⟨c0, c1, c2, c3, c4, c5⟩ := h.row.cells
  have f5 := h.row.frozen 5
  have f3 := h.row.frozen 3
  have hr1 : DRow (w.setCell ⟨d, 5, none⟩ (.int .u64 (wn + 1))) d mb off true ah kp (wn + 1) := drow_set h.row 5 _ (six rfl rfl rfl rfl rfl rfl)
  have hr2 : DRow ((w.setCell ⟨d, 5, none⟩ (.int .u64 (wn + 1))).setCell ⟨d, 3, none⟩ (.int .i64 (ah - 1))) d mb off true (ah - 1) kp (wn + 1) := drow_set hr1 3 _ (six rfl rfl rfl rfl rfl rfl)
  have hk2 : Kept w ((w.setCell ⟨d, 5, none⟩ (.int .u64 (wn + 1))).setCell ⟨d, 3, none⟩ (.int .i64 (ah - 1))) (fun k => k = d) := kept_set.trans kept_set (fun k _ hk => hk)
  have HCL : Hid (Calls Tryz.prog 185 caps ((w.setCell ⟨d, 5, none⟩ (.int .u64 (wn + 1))).setCell ⟨d, 3, none⟩ (.int .i64 (ah - 1))) fun e w' => e = .returned (.tuple #[]) ∧ P w') := hcl _ (h.rowed hr2 hk2) hk2
  have hwb : 0 ≤ wn + 1 ∧ wn + 1 ≤ 1000000001 := by omega
  have q0 : (ah == 0) = false := by simp; omega
  have hab : 0 ≤ ah - 1 ∧ ah - 1 ≤ 9223372036854775807 := by omega
  clear h hcl hr1 hr2 hk2 c0 c1 c4
  go_enter Tryz.func136, Tryz.ntmps136
  go_wp2_with fail
  refine HCL.out.mono ?_
  rintro e w' ⟨rfl, hp⟩
  have HP : Hid (P w') := hp
  clear hp
  go_wp2
  go_ret
  exact ⟨rfl, HP.out⟩
set_option maxHeartbeats 2000000 in
theorem d_writeLost (base d mb n : Nat) (off : Bool) (kp wn : Int) (F : ByteArray → Option Nat) (G : Nat → FD) (cl : Value) (w : World) (h : DiskIs w base d mb n off true 0 kp wn F G) (hw : 0 ≤ wn ∧ wn ≤ 1000000000) (hk : -9223372036854775808 ≤ kp ∧ kp ≤ 9223372036854775807) :
    Calls Tryz.prog 136 #[.pointer (some ⟨d, 0, none⟩), .bool false, cl] w fun e w' => e = .returned (.int .i64 60) ∧ DiskIs w' base d mb n true false 0 0 (wn + 1) F (fun b => cutD kp (G b)) ∧ Kept w w' (Own0 d mb F) := by
  obtain ⟨c0, c1, c2, c3, c4, c5⟩ := h.row.cells
  have f5 := h.row.frozen 5
  have hr1 : DRow (w.setCell ⟨d, 5, none⟩ (.int .u64 (wn + 1))) d mb off true 0 kp (wn + 1) := drow_set h.row 5 _ (six rfl rfl rfl rfl rfl rfl)
  have HC : Hid (Calls Tryz.prog 29 #[.pointer (some ⟨d, 0, none⟩), .int .i64 kp] (w.setCell ⟨d, 5, none⟩ (.int .u64 (wn + 1))) fun e w' => e = .returned (.tuple #[]) ∧ DiskIs w' base d mb n true true 0 kp (wn + 1) F (fun b => cutD kp (G b)) ∧ Kept (w.setCell ⟨d, 5, none⟩ (.int .u64 (wn + 1))) w' (Own0 d mb F)) := d_cut base d mb n off true 0 kp (wn + 1) kp F G _ (h.rowed hr1 kept_set) hk
  have hwb : 0 ≤ wn + 1 ∧ wn + 1 ≤ 1000000001 := by omega
  have HK0 : Hid (Kept w (w.setCell ⟨d, 5, none⟩ (.int .u64 (wn + 1))) (Own0 d mb F)) := kept_set.mono (fun k _ hk => .inl hk)
  clear h hr1 c0 c1 hk
  go_enter Tryz.func136, Tryz.ntmps136
  go_wp2_with fail
  refine HC.out.mono ?_
  rintro e w1 ⟨rfl, hd1, hk1⟩
  have HD1 : Hid (DiskIs w1 base d mb n true true 0 kp (wn + 1) F (fun b => cutD kp (G b))) := hd1
  have HK1 : Hid (Kept w w1 (Own0 d mb F)) := HK0.out.trans hk1 (fun k _ hk => hk)
  clear hd1 hk1
  go_wp2_with fail
  refine (d_disarm d mb true true 0 kp (wn + 1) w1 HD1.out.row).mono ?_
  rintro e w2 ⟨rfl, hr2, hg2⟩
  have HD2 : Hid (DiskIs w2 base d mb n true false 0 0 (wn + 1) F (fun b => cutD kp (G b))) := HD1.out.rowed hr2 (Kept.of hg2 (fun k hk => by cases hk; rfl))
  have HK2 : Hid (Kept w w2 (Own0 d mb F)) := HK1.out.trans (Kept.of hg2 (X := fun k => k = d) (fun k hk => by cases hk; rfl)) (fun k _ hk => .inl hk)
  clear hr2 hg2
  go_wp2
  go_ret
  exact ⟨rfl, HD2.out, HK2.out⟩
set_option maxHeartbeats 2000000 in
theorem d_writeCut46 (base d mb n : Nat) (off : Bool) (kp wn : Int) (F : ByteArray → Option Nat) (G : Nat → FD) (caps : Array Value) (Q : World → Nat → (ByteArray → Option Nat) → (Nat → FD) → Prop) (w : World) (h : DiskIs w base d mb n off true 0 kp wn F G) (hw : 0 ≤ wn ∧ wn ≤ 1000000000) (hk : -9223372036854775808 ≤ kp ∧ kp ≤ 9223372036854775807)
    (hcl : ∀ w1, DiskIs w1 base d mb n off true 0 kp (wn + 1) F G → Kept w w1 (fun k => k = d) → Calls Tryz.prog 163 caps w1 fun e w' => e = .returned (.tuple #[]) ∧ ∃ n' F' G', DiskIs w' base d mb n' off true 0 kp (wn + 1) F' G' ∧ Q w' n' F' G') :
    Calls Tryz.prog 136 #[.pointer (some ⟨d, 0, none⟩), .bool true, .func (.func 163) #[] caps] w fun e w' => e = .returned (.int .i64 60) ∧ ∃ w1 n' F' G', Q w1 n' F' G' ∧ DiskIs w' base d mb n' true false 0 0 (wn + 1) F' (fun b => cutD kp (G' b)) ∧ Kept w1 w' (Own0 d mb F') := by
  obtain ⟨c0, c1, c2, c3, c4, c5⟩ := h.row.cells
  have f5 := h.row.frozen 5
  have hr1 : DRow (w.setCell ⟨d, 5, none⟩ (.int .u64 (wn + 1))) d mb off true 0 kp (wn + 1) := drow_set h.row 5 _ (six rfl rfl rfl rfl rfl rfl)
  have HCL : Hid (Calls Tryz.prog 163 caps (w.setCell ⟨d, 5, none⟩ (.int .u64 (wn + 1))) fun e w' => e = .returned (.tuple #[]) ∧ ∃ n' F' G', DiskIs w' base d mb n' off true 0 kp (wn + 1) F' G' ∧ Q w' n' F' G') := hcl _ (h.rowed hr1 kept_set) kept_set
  have hwb : 0 ≤ wn + 1 ∧ wn + 1 ≤ 1000000001 := by omega
  clear h hcl hr1 c0 c1
  go_enter Tryz.func136, Tryz.ntmps136
  go_wp2_with fail
  refine HCL.out.mono ?_
  rintro e w1 ⟨rfl, n', F', G', hd1, hq⟩
  have HD1 : Hid (DiskIs w1 base d mb n' off true 0 kp (wn + 1) F' G') := hd1
  have HQ : Hid (Q w1 n' F' G') := hq
  obtain ⟨x0, x1, x2, x3, x4, x5⟩ := hd1.row.cells
  clear hd1 hq x0 x1 x2 x3 x5
  go_wp2_with fail
  refine (d_cut base d mb n' off true 0 kp (wn + 1) kp F' G' w1 HD1.out hk).mono ?_
  rintro e w2 ⟨rfl, hd2, hk2⟩
  have HD2 : Hid (DiskIs w2 base d mb n' true true 0 kp (wn + 1) F' (fun b => cutD kp (G' b))) := hd2
  have HK2 : Hid (Kept w1 w2 (Own0 d mb F')) := hk2
  clear hd2 hk2
  go_wp2_with fail
  refine (d_disarm d mb true true 0 kp (wn + 1) w2 HD2.out.row).mono ?_
  rintro e w3 ⟨rfl, hr3, hg3⟩
  have HD3 : Hid (DiskIs w3 base d mb n' true false 0 0 (wn + 1) F' (fun b => cutD kp (G' b))) := HD2.out.rowed hr3 (Kept.of hg3 (fun k hk => by cases hk; rfl))
  have HK3 : Hid (Kept w1 w3 (Own0 d mb F')) := HK2.out.trans (Kept.of hg3 (X := fun k => k = d) (fun k hk => by cases hk; rfl)) (fun k _ hk => .inl hk)
  clear hr3 hg3
  go_wp2
  go_ret
  exact ⟨rfl, w1, n', F', G', HQ.out, HD3.out, HK3.out⟩
end Go.Proofs.YtgpgkpciajajcaaGreatDoor

/- Package disk: what a write does to a file. -/
namespace Go.Proofs.YtgpgkpciajajcaaGreatDoor
open Go.RowKit Go.Maps
set_option linter.unusedVariables false
set_option maxRecDepth 20000

def updG (G : Nat → FD) (b : Nat) (f : FD) : Nat → FD := fun k => if k = b then f else G k
theorem updG_same (G : Nat → FD) (b : Nat) (f : FD) : updG G b f b = f := if_pos rfl
theorem updG_other (G : Nat → FD) {b k : Nat} (f : FD) (h : k ≠ b) : updG G b f k = G k := if_neg h
theorem step_append_b {ops : Array Oper} {o : Oper} {a : Act} {w : World} {K : Act → World → Prop} {Q : Exit → Act → World → Prop} {E : Prop} (hgd : o.guard = none) (s x : Operand)
    (ho : o.op = .call { callee := .builtin .append, args := #[s, x], argTypes := #[37, 37] }) (base : Nat) (v : Value) (n : Nat) (xs : List Int) (hs : a.eval s = v) (hown : SOwn byteE 5 w base v n xs)
    (ad : Addr) (zs : List Int) (m cap : Nat) (hx : a.eval x = .slice (some ad) m cap) (hm : zs.length = m) (hr : SRd byteE w (some ad) zs) (hlen : (n + m) * 1 ≤ 140737488355328) (hmax : n + m ≤ maxLen) (hb : base ≤ w.heap.size)
    (h : ∀ v' w', SOwn byteE 5 w' base v' (n + m) (xs ++ zs) → w.grownBy w' v.ownBlock → (v'.ownBlock = v.ownBlock ∨ v'.ownBlock = some w.heap.size) → K (a.put o.dst v') w') : if Region.wanted o (yielded ops a.tmps) = true then Oper.wp Tryz.prog o a w K Q else E := by
  have hw : Region.wanted o (yielded ops a.tmps) = true := by simp [Region.wanted, hgd]
  rw [if_pos hw]
  obtain ⟨i0, z, hi, hz0, hz1, hz2, hz3⟩ := byteET.info
  subst hm
  obtain ⟨v', w', hrun, hown', hg, _, hwh⟩ := run_append_own_at (P := Tryz.prog) w base 37 o.type 5 i0 z byteE.size 1 byteET.under hi hz0 hz1 hz2 hz3 byteE.pos v n (byteE.flat xs) hown ad zs.length cap (byteE.flat zs) (byteE.flat_len zs) hr.news (byteE.flat_one zs) hmax hlen hb
  unfold Oper.wp
  simp [execOp, ho, resolve, invoke, builtin, hs, hx, hrun, Result.andThen]
  rw [← byteE.flat_app] at hown'
  exact h v' w' hown' hg hwh
theorem sown_slice {w : World} {base n : Nat} {v : Value} {l : List Int} (h : SOwn byteE 5 w base v n l) : ∃ a c, v = .slice a n c := by
  rcases h.2 with ⟨h', h0⟩ | ⟨g, cap, cur, h', _⟩
  · exact ⟨none, 0, by rw [h', h0]⟩
  · exact ⟨_, _, h'⟩
theorem sown_apart {t k : TypeId} {w : World} {base n p : Nat} {v : Value} {l : List Int} {F : Nat → Value} (h : SOwn byteE 5 w base v n l) (hr : w.rowIs p t k F) (hne : t ≠ 5) : v.ownBlock ≠ some p := by
  intro ep
  obtain ⟨_, h2⟩ := h
  rcases h2 with ⟨ev, _⟩ | ⟨g, cap, cur, ev, _, hh, _⟩
  · subst ev; simp [Value.ownBlock] at ep
  · subst ev
    simp only [Value.ownBlock, Option.some.injEq] at ep
    subst ep
    obtain ⟨c', hc', _⟩ := hr
    rw [hc'] at hh
    simp at hh
    exact hne hh.2
/-- One file is written: the others stay. -/
theorem DiskIs.put {w w' : World} {base d mb n b : Nat} {off set : Bool} {ah kp wn : Int} {F : ByteArray → Option Nat} {G : Nat → FD} {s : ByteArray} {f : FD} {X : Nat → Prop} (h : DiskIs w base d mb n off set ah kp wn F G) (hs : F s = some b) (hg : Kept w w' X) (h1 : ¬ X d) (h2 : ¬ X mb)
    (h3 : ∀ t b', F t = some b' → b' ≠ b → ¬ X b' ∧ ∀ x, (G b').a = some x → ¬ X x.block) (hf : FIs w' base b f) (hap : ∀ t b', F t = some b' → b' ≠ b → ∀ x y, f.a = some x → (G b').a = some y → x.block ≠ y.block) : DiskIs w' base d mb n off set ah kp wn F (updG G b f) := by
  obtain ⟨D, ⟨es, clock, hb, hF, hs', hD⟩, e1, e2, e3⟩ := h.map
  refine ⟨h.row.of_block (hg.block d h.row.lt h1), ⟨D, ⟨es, clock, (hg.block mb h.map.lt h2).trans hb, hF, hs', hD⟩, e1, e2, e3⟩, fun t b' ht => ⟨?_, (h.file t b' ht).2⟩, h.inj, ?_, h.hd, h.hmb⟩
  · by_cases e : b' = b
    · subst e; rw [updG_same]; exact hf
    · rw [updG_other G f e]
      exact FIs.stay (h.file t b' ht).1 (hg.block b' (h.lt t b' ht).1 (h3 t b' ht e).1) (fun x hx => hg.block x.block (h.slc ht hx).2.1 ((h3 t b' ht e).2 x hx))
  · intro t t' b1 b2 ht ht' hne x y hx hy
    by_cases e : b1 = b
    · subst e
      rw [updG_same] at hx
      rw [updG_other G f (fun e => hne e.symm)] at hy
      exact hap t' b2 ht' (fun e => hne e.symm) x y hx hy
    · rw [updG_other G f e] at hx
      by_cases e' : b2 = b
      · subst e'
        rw [updG_same] at hy
        exact fun e'' => hap t b1 ht e y x hy hx e''.symm
      · rw [updG_other G f e'] at hy
        exact h.apart t t' b1 b2 ht ht' hne x y hx hy
theorem DiskIs.appended {w w2 : World} {base d mb n b c2 : Nat} {off set : Bool} {ah kp wn : Int} {F : ByteArray → Option Nat} {G : Nat → FD} {A a2 : Option Addr} {C : Nat} {Z zs : List Int} {Y : Nat} {s : ByteArray} (h : DiskIs w base d mb n off set ah kp wn F G) (hG : G b = ⟨A, C, Z, Y⟩) (hs : F s = some b) (hby : ∀ z ∈ zs, 0 ≤ z ∧ z ≤ 255) (hlen : Z.length + zs.length ≤ 4194304)
    (ho2 : SOwn byteE 5 w2 base (.slice a2 (Z.length + zs.length) c2) (Z.length + zs.length) (Z ++ zs)) (hg2 : w.grownBy w2 (Value.slice A Z.length C).ownBlock) (hwh : (Value.slice a2 (Z.length + zs.length) c2).ownBlock = (Value.slice A Z.length C).ownBlock ∨ (Value.slice a2 (Z.length + zs.length) c2).ownBlock = some w.heap.size) :
    DiskIs (w2.setCell ⟨b, 0, none⟩ (.slice a2 (Z.length + zs.length) c2)) base d mb n off set ah kp wn F (updG G b ⟨a2, c2, Z ++ zs, Y⟩) ∧ Kept w (w2.setCell ⟨b, 0, none⟩ (.slice a2 (Z.length + zs.length) c2)) (fun k => k = b ∨ ∃ x, A = some x ∧ k = x.block) ∧ ∀ x, a2 = some x → w.heap.size ≤ x.block ∨ ∃ y, A = some y ∧ x.block = y.block := by
  have hfile : FileIs w base b A C Z Y := by have := (h.file s b hs).1; rw [hG] at this; exact this
  have hap := sown_apart hfile.own hfile.row (by decide)
  have hr2 : w2.rowIs b 136 2 (FileF (.slice A Z.length C) Y) := hfile.row.of_block (hg2.block b hfile.row.lt (fun e => hap e.symm))
  have hap2 := sown_apart ho2 hr2 (by decide)
  have hgs : w2.grownBy (w2.setCell ⟨b, 0, none⟩ (.slice a2 (Z.length + zs.length) c2)) (some b) := gb_set rfl
  have hk : Kept w (w2.setCell ⟨b, 0, none⟩ (.slice a2 (Z.length + zs.length) c2)) (fun k => k = b ∨ ∃ x, A = some x ∧ k = x.block) := (Kept.of hg2 (X := fun k => k = b ∨ ∃ x, A = some x ∧ k = x.block) (fun k hk => by
      cases A with
      | none => simp [Value.ownBlock] at hk
      | some x => simp only [Value.ownBlock, Option.some.injEq] at hk; exact .inr ⟨x, rfl, hk.symm⟩)).trans (Kept.of hgs (X := fun k => k = b) (fun k hk => by cases hk; rfl)) (fun k _ hk => .inl hk)
  have hlt := h.lt s b hs
  have hAs : ∀ x, A = some x → (G b).a = some x := fun x hx => by rw [hG]; exact hx
  refine ⟨h.put hs hk ?_ ?_ ?_ ?_ ?_, hk, fun x hx => ?_⟩
  rotate_right
  · subst hx
    rcases hwh with e | e
    · cases A with
      | none => simp [Value.ownBlock] at e
      | some z =>
        simp only [Value.ownBlock, Option.some.injEq] at e
        exact .inr ⟨z, rfl, e⟩
    · simp only [Value.ownBlock, Option.some.injEq] at e
      exact .inl (by omega)
  · rintro (e | ⟨x, hx, e⟩)
    · exact hlt.2.1 e.symm
    · exact (h.slc hs (hAs x hx)).2.2.1 e.symm
  · rintro (e | ⟨x, hx, e⟩)
    · exact hlt.2.2 e.symm
    · exact (h.slc hs (hAs x hx)).2.2.2.1 e.symm
  · intro t b' ht hne
    refine ⟨?_, fun y hy => ?_⟩
    · rintro (e | ⟨x, hx, e⟩)
      · exact hne e
      · exact (h.slc hs (hAs x hx)).2.2.2.2 t b' ht e.symm
    · rintro (e | ⟨x, hx, e⟩)
      · exact (h.slc ht hy).2.2.2.2 s b hs e
      · exact h.apart t s b' b ht hs hne y x hy (hAs x hx) e
  · have hl : (Z ++ zs).length = Z.length + zs.length := List.length_append
    refine ⟨?_, ?_, ?_, ?_, ?_⟩
    · show World.rowIs _ b 136 2 (FileF (.slice a2 (Z ++ zs).length c2) Y)
      rw [hl]
      exact (hr2.set 0 _).congr (two rfl rfl)
    · show SOwn byteE 5 _ base (.slice a2 (Z ++ zs).length c2) (Z ++ zs).length (Z ++ zs)
      rw [hl]
      exact SOwn.kept ho2 hgs (.inr hap2)
    · intro z hz
      rcases List.mem_append.1 hz with h1 | h1
      · exact hfile.byte z h1
      · exact hby z h1
    · show Y ≤ (Z ++ zs).length
      have := hfile.syn
      omega
    · show (Z ++ zs).length ≤ 4194304
      omega
  · intro t b' ht hne x y hx hy
    have hx' : a2 = some x := hx
    subst hx'
    rcases hwh with e | e
    · cases A with
      | none => simp [Value.ownBlock] at e
      | some z =>
        simp only [Value.ownBlock, Option.some.injEq] at e
        intro e2
        exact h.apart s t b b' hs ht (fun e => hne e.symm) z y (hAs z rfl) hy (by rw [← e, e2])
    · simp only [Value.ownBlock, Option.some.injEq] at e
      have := (h.slc ht hy).2.1
      omega
set_option maxHeartbeats 4000000 in
theorem d_appOld (base d mb n b B3 B4 B5 M cd : Nat) (off set : Bool) (ah kp wn : Int) (F : ByteArray → Option Nat) (G : Nat → FD) (A : Option Addr) (C : Nat) (Z : List Int) (Y : Nat) (s : ByteArray) (ad : Addr) (zs : List Int) (w : World) (h : DiskIs w base d mb n off set ah kp wn F G) (hG : G b = ⟨A, C, Z, Y⟩) (hs : F s = some b) (hss : s.size ≤ 64)
    (hB3 : w.rowIs B3 23 1 (fun _ => .pointer (some ⟨d, 0, none⟩))) (hB4 : w.rowIs B4 9 1 (fun _ => .string s)) (hB5 : w.rowIs B5 37 1 (fun _ => .slice (some ad) M cd)) (hr : SRd byteE w (some ad) zs) (hM : zs.length = M) (hby : ∀ z ∈ zs, 0 ≤ z ∧ z ≤ 255) (hlen : Z.length + M ≤ 4194304) (hb : base ≤ w.heap.size) :
    Calls Tryz.prog 163 #[.pointer (some ⟨B3, 0, none⟩), .pointer (some ⟨B4, 0, none⟩), .pointer (some ⟨B5, 0, none⟩)] w fun e w' => e = .returned (.tuple #[]) ∧ ∃ a' c', DiskIs w' base d mb n off set ah kp wn F (updG G b ⟨a', c', Z ++ zs, Y⟩) ∧ Kept w w' (fun k => k = b ∨ ∃ x, A = some x ∧ k = x.block) ∧ ∀ x, a' = some x → w.heap.size ≤ x.block ∨ ∃ y, A = some y ∧ x.block = y.block := by
  obtain ⟨c0, c1, c2, c3, c4, c5⟩ := h.row.cells
  have p3 : w.cell? ⟨B3, 0, none⟩ = some (.pointer (some ⟨d, 0, none⟩)) := hB3.cell (i := 0) (by omega)
  have p4 : w.cell? ⟨B4, 0, none⟩ = some (.string s) := hB4.cell (i := 0) (by omega)
  have p5 : w.cell? ⟨B5, 0, none⟩ = some (.slice (some ad) M cd) := hB5.cell (i := 0) (by omega)
  have hfile : FileIs w base b A C Z Y := by have := (h.file s b hs).1; rw [hG] at this; exact this
  obtain ⟨L, eL⟩ : ∃ L, L = Z.length := ⟨_, rfl⟩
  have b0 : w.cell? ⟨b, 0, none⟩ = some (.slice A L C) := by rw [eL]; exact hfile.row.cell (i := 0) (by omega)
  have bf0 := hfile.row.frozen 0
  have hlook : (Instr.lookup 60 (.map (some mb)) (.string s) false).run Tryz.prog w.drew = .ok (.pointer (some ⟨b, 0, none⟩)) w.drew := by
    have := h.drew.map.look s hss
    rw [hs] at this
    exact this
  have HOW : Hid (SOwn byteE 5 w.drew.drew base (.slice A L C) L Z) := by
    have := hfile.own
    rw [← eL] at this
    exact this
  have HRW : Hid (w.drew.drew.rowIs b 136 2 (FileF (.slice A L C) Y)) := by
    have := hfile.row
    rw [← eL] at this
    exact this
  have HSR : Hid (SRd byteE w.drew.drew (some ad) zs) := hr
  have HLEN : Hid (zs.length = M) := hM
  have HFL : Hid (FileIs w base b A C Z Y) := hfile
  have HD : Hid (DiskIs w base d mb n off set ah kp wn F G) := h
  have HBS : Hid (base ≤ w.drew.drew.heap.size) := hb
  have HBY : Hid (∀ z ∈ zs, 0 ≤ z ∧ z ≤ 255) := hby
  have HS : Hid (F s = some b) := hs
  have HG : Hid (G b = ⟨A, C, Z, Y⟩) := hG
  have HL : Hid (L = Z.length) := eL
  have hLM : L + M ≤ 4194304 := by omega
  clear h hs hB3 hB4 hB5 hr hM hby hfile hb c1 c2 c3 c4 c5 hlen eL hG
  go_enter Tryz.func163, Tryz.ntmps163
  go_wp2_with fail
  go_region
  go_wp2_with fail
  go_region_law (refine step_append_b rfl (.tmp 24) (.tmp 25) rfl base (.slice A L C) L Z (by simp [Act.eval]) HOW.out ad zs M cd (by simp [Act.eval]) HLEN.out HSR.out ?b1 ?b2 HBS.out ?_; (case b1 => omega); (case b2 => unfold maxLen; omega); intro v2 w2 ho2 hg2 hwh; obtain ⟨a2, cc2, rfl⟩ := sown_slice ho2; have hr2 : w2.rowIs b 136 2 (FileF (.slice A L C) Y) := HRW.out.of_block (hg2.block b HRW.out.lt (fun e => sown_apart HOW.out HRW.out (by decide) e.symm)); have f02 := hr2.frozen 0; have c02 : w2.cell? ⟨b, 0, none⟩ = some (.slice A L C) := hr2.cell (i := 0) (by omega))
  all_goals
    have hgw : w.grownBy w2 (Value.slice A L C).ownBlock := ⟨hg2.os, hg2.tape, hg2.output, hg2.size, hg2.block⟩
    have hl := HL.out
    have hm := HLEN.out
    subst hl
    subst hm
    have hend := HD.out.appended HG.out HS.out HBY.out hLM ho2 hgw hwh
    have HE : Hid (DiskIs (w2.setCell ⟨b, 0, none⟩ (.slice a2 (Z.length + zs.length) cc2)) base d mb n off set ah kp wn F (updG G b ⟨a2, cc2, Z ++ zs, Y⟩) ∧ Kept w (w2.setCell ⟨b, 0, none⟩ (.slice a2 (Z.length + zs.length) cc2)) (fun k => k = b ∨ ∃ x, A = some x ∧ k = x.block) ∧ ∀ x, a2 = some x → w.heap.size ≤ x.block ∨ ∃ y, A = some y ∧ x.block = y.block) := hend
    clear hend
  all_goals go_wp2
  all_goals go_end0
  all_goals first | exact ⟨rfl, a2, ⟨cc2, HE.out.1⟩, HE.out.2.1, HE.out.2.2⟩ | exact ⟨rfl, a2, cc2, HE.out.1, HE.out.2.1, HE.out.2.2⟩
def newFile : Obj := .cells #[.slice none 0 0, .int .i64 0] 136
theorem DiskIs.add {w w' : World} {base d mb n : Nat} {off set : Bool} {ah kp wn : Int} {F : ByteArray → Option Nat} {G : Nat → FD} {s : ByteArray} (h : DiskIs w base d mb n off set ah kp wn F G) (hs : F s = none) (hm : MapIs w' mb (n + 1) (setF F s (some w.heap.size))) (hg : (w.alloc newFile).grownBy w' (some mb)) (hb : base ≤ w.heap.size) :
    DiskIs w' base d mb (n + 1) off set ah kp wn (setF F s (some w.heap.size)) (updG G w.heap.size ⟨none, 0, [], 0⟩) ∧ Kept w w' (fun k => k = mb) := by
  have hs1 : (w.alloc newFile).heap.size = w.heap.size + 1 := Array.size_push _
  have hga := World.grownBy_alloc w newFile none
  have hk : Kept w w' (fun k => k = mb) := (Kept.of hga (X := fun k => k = mb) (fun k hk => by cases hk)).trans (Kept.of hg (X := fun k => k = mb) (fun k hk => by cases hk; rfl)) (fun k _ hk => hk)
  have hmb := h.map.lt
  have hdm : d ≠ mb := map_ne h.row h.map
  have hold : ∀ t b, t ≠ s → setF F s (some w.heap.size) t = some b → F t = some b := fun t b hne ht => by rw [setF_other F _ hne] at ht; exact ht
  refine ⟨⟨h.row.of_block (hk.block d h.row.lt hdm), hm, fun t b ht => ?_, fun t t' b ht ht' => ?_, fun t t' b b' ht ht' hne x y hx hy => ?_, h.hd, h.hmb⟩, hk⟩
  · by_cases e : t = s
    · subst e
      rw [setF_same] at ht
      obtain rfl := Option.some.inj ht
      rw [updG_same]
      refine ⟨⟨?_, SOwn.nil 5 _ _, by simp, Nat.le_refl _, by simp⟩, hb⟩
      have hr0 : (w.alloc newFile).rowIs w.heap.size 136 2 (FileF (.slice none 0 0) 0) := World.rowIs_alloc w #[.slice none 0 0, .int .i64 0] 136 _ (two rfl rfl)
      exact hr0.of_block (hg.block w.heap.size (by omega) (fun e => by have := Option.some.inj e; omega))
    · have ht' := hold t b e ht
      have hbl := h.lt t b ht'
      rw [updG_other G _ (by omega)]
      exact ⟨FIs.stay (h.file t b ht').1 (hk.block b hbl.1 hbl.2.2) (fun x hx => hk.block x.block (h.slc ht' hx).2.1 (h.slc ht' hx).2.2.2.1), (h.file t b ht').2⟩
  · by_cases e : t = s
    · by_cases e' : t' = s
      · rw [e, e']
      · subst e
        rw [setF_same] at ht
        obtain rfl := Option.some.inj ht
        have := (h.lt t' _ (hold t' _ e' ht')).1
        omega
    · by_cases e' : t' = s
      · subst e'
        rw [setF_same] at ht'
        obtain rfl := Option.some.inj ht'
        have := (h.lt t _ (hold t _ e ht)).1
        omega
      · exact h.inj t t' b (hold t b e ht) (hold t' b e' ht')
  · by_cases e : b = w.heap.size
    · subst e
      rw [updG_same] at hx
      cases hx
    · by_cases e' : b' = w.heap.size
      · subst e'
        rw [updG_same] at hy
        cases hy
      · rw [updG_other G _ e] at hx
        rw [updG_other G _ e'] at hy
        have k1 : t ≠ s := fun e2 => e (by subst e2; rw [setF_same] at ht; exact (Option.some.inj ht).symm)
        have k2 : t' ≠ s := fun e2 => e' (by subst e2; rw [setF_same] at ht'; exact (Option.some.inj ht').symm)
        exact h.apart t t' b b' (hold t b k1 ht) (hold t' b' k2 ht') hne x y hx hy
set_option maxHeartbeats 4000000 in
theorem d_appNew (base d mb n B3 B4 B5 M cd : Nat) (off set : Bool) (ah kp wn : Int) (F : ByteArray → Option Nat) (G : Nat → FD) (s : ByteArray) (ad : Addr) (zs : List Int) (w : World) (h : DiskIs w base d mb n off set ah kp wn F G) (hs : F s = none) (hss : s.size ≤ 64) (hn : n ≤ 1048576)
    (hB3 : w.rowIs B3 23 1 (fun _ => .pointer (some ⟨d, 0, none⟩))) (hB4 : w.rowIs B4 9 1 (fun _ => .string s)) (hB5 : w.rowIs B5 37 1 (fun _ => .slice (some ad) M cd)) (hr : SRd byteE w (some ad) zs) (hM : zs.length = M) (hby : ∀ z ∈ zs, 0 ≤ z ∧ z ≤ 255) (hlen : M ≤ 4194304) (hb : base ≤ w.heap.size) (had : ad.block ≠ mb) :
    Calls Tryz.prog 163 #[.pointer (some ⟨B3, 0, none⟩), .pointer (some ⟨B4, 0, none⟩), .pointer (some ⟨B5, 0, none⟩)] w fun e w' => e = .returned (.tuple #[]) ∧ ∃ a' c', DiskIs w' base d mb (n + 1) off set ah kp wn (setF F s (some w.heap.size)) (updG (updG G w.heap.size ⟨none, 0, [], 0⟩) w.heap.size ⟨a', c', zs, 0⟩) ∧ Kept w w' (fun k => k = mb) ∧ ∀ x, a' = some x → w.heap.size ≤ x.block := by
  obtain ⟨c0, c1, c2, c3, c4, c5⟩ := h.row.cells
  have p3 : w.cell? ⟨B3, 0, none⟩ = some (.pointer (some ⟨d, 0, none⟩)) := hB3.cell (i := 0) (by omega)
  have p4 : w.cell? ⟨B4, 0, none⟩ = some (.string s) := hB4.cell (i := 0) (by omega)
  have p5 : w.cell? ⟨B5, 0, none⟩ = some (.slice (some ad) M cd) := hB5.cell (i := 0) (by omega)
  have hlook : (Instr.lookup 60 (.map (some mb)) (.string s) false).run Tryz.prog w.drew = .ok (.pointer none) w.drew := by
    have := h.drew.map.look s hss
    rw [hs] at this
    exact this
  have hga : w.grownBy ((w.alloc newFile).drew.drew) none := gb_drew (gb_drew (World.grownBy_alloc w newFile none))
  have hmp : MapIs ((w.alloc newFile).drew.drew) mb n F := h.map.kept hga (by simp)
  obtain ⟨w1, hput, hm1, hg1⟩ := hmp.put s hss hn w.heap.size
  have hg1' : (w.alloc newFile).grownBy w1 (some mb) := ⟨hg1.os, hg1.tape, hg1.output, hg1.size, hg1.block⟩
  have hD1 := h.add hs hm1 hg1' hb
  have hs1 : (w.alloc newFile).heap.size = w.heap.size + 1 := Array.size_push _
  have hB3l := hB3.lt
  have hB4l := hB4.lt
  have hB5l := hB5.lt
  have hdl := h.row.lt
  have p5' : w1.cell? ⟨B5, 0, none⟩ = some (.slice (some ad) M cd) := hg1.cell (hga.cell p5 (by simp)) (fun e => map_ne hB5 h.map (Option.some.inj e))
  have hfile : FileIs w1 base w.heap.size none 0 [] 0 := by have := (hD1.1.file s w.heap.size (setF_same F s _)).1; rw [updG_same] at this; exact this
  have b0 : w1.cell? ⟨w.heap.size, 0, none⟩ = some (.slice none 0 0) := hfile.row.cell (i := 0) (by omega)
  have HRW : Hid (w1.drew.rowIs w.heap.size 136 2 (FileF (.slice none 0 0) 0)) := hfile.row
  have HSR : Hid (SRd byteE w1.drew (some ad) zs) := SRd.grown (SRd.grown hr hga (by simp)) (gb_drew hg1) (fun x hx => by cases hx; exact fun e => had (Option.some.inj e))
  have HLEN : Hid (zs.length = M) := hM
  have HD1 : Hid (DiskIs w1 base d mb (n + 1) off set ah kp wn (setF F s (some w.heap.size)) (updG G w.heap.size ⟨none, 0, [], 0⟩) ∧ Kept w w1 (fun k => k = mb)) := hD1
  have HBS : Hid (base ≤ w1.drew.heap.size) := Nat.le_trans hb (Nat.le_trans hga.size hg1.size)
  have HBY : Hid (∀ z ∈ zs, 0 ≤ z ∧ z ≤ 255) := hby
  have hput' : (Instr.mapUpdate 60 (.map (some mb)) (.string s) (.pointer (some ⟨w.heap.size, 0, none⟩))).run Tryz.prog ((w.alloc (.cells #[.slice none 0 0, .int .i64 0] 136)).drew.drew) = .ok () w1 := hput
  have n3 : B3 ≠ w.heap.size := by omega
  have n4 : B4 ≠ w.heap.size := by omega
  have nd : d ≠ w.heap.size := by omega
  clear h hs hB3 hB4 hB5 hr hM hby hfile hb c1 c2 c3 c4 c5 hga hmp hm1 hg1 hg1' hD1 hs1 hput had
  go_enter Tryz.func163, Tryz.ntmps163
  go_wp2_with fail
  go_region
  go_wp2_with fail
  go_region
  go_wp2_with fail
  go_region_law (refine step_append_b rfl (.tmp 24) (.tmp 25) rfl base (.slice none 0 0) 0 [] (by simp [Act.eval]) (SOwn.nil 5 _ _) ad zs M cd (by simp [Act.eval]) HLEN.out HSR.out ?b1 ?b2 HBS.out ?_; (case b1 => omega); (case b2 => unfold maxLen; omega); intro v2 w2 ho2 hg2 hwh; obtain ⟨a2, cc2, rfl⟩ := sown_slice ho2; have hr2 : w2.rowIs w.heap.size 136 2 (FileF (.slice none 0 0) 0) := HRW.out.of_block (hg2.block w.heap.size HRW.out.lt (by simp [Value.ownBlock])); have f02 := hr2.frozen 0; have c02 : w2.cell? ⟨w.heap.size, 0, none⟩ = some (.slice none 0 0) := hr2.cell (i := 0) (by omega))
  all_goals
    have hgw : w1.grownBy w2 (Value.slice none ([] : List Int).length 0).ownBlock := ⟨hg2.os, hg2.tape, hg2.output, hg2.size, hg2.block⟩
    have hm := HLEN.out
    subst hm
    have hwh' : (Value.slice a2 (([] : List Int).length + zs.length) cc2).ownBlock = (Value.slice none ([] : List Int).length 0).ownBlock ∨ (Value.slice a2 (([] : List Int).length + zs.length) cc2).ownBlock = some w1.heap.size := hwh
    have hend := HD1.out.1.appended (updG_same G w.heap.size ⟨none, 0, [], 0⟩) (setF_same F s (some w.heap.size)) HBY.out (by simp; exact hlen) ho2 hgw hwh'
    have HE : Hid (DiskIs (w2.setCell ⟨w.heap.size, 0, none⟩ (.slice a2 (0 + zs.length) cc2)) base d mb (n + 1) off set ah kp wn (setF F s (some w.heap.size)) (updG (updG G w.heap.size ⟨none, 0, [], 0⟩) w.heap.size ⟨a2, cc2, zs, 0⟩) ∧ Kept w (w2.setCell ⟨w.heap.size, 0, none⟩ (.slice a2 (0 + zs.length) cc2)) (fun k => k = mb) ∧ ∀ x, a2 = some x → w.heap.size ≤ x.block) := ⟨hend.1, HD1.out.2.trans hend.2.1 (fun k hk hx => by
      rcases hx with e | ⟨x, hx, _⟩
      · omega
      · cases hx), fun x hx => by
        have h1 := HD1.out.2.size
        rcases hend.2.2 x hx with h | ⟨y, hy, _⟩
        · omega
        · cases hy⟩
    clear hend
  all_goals go_wp2
  all_goals go_end0
  all_goals simp only [Nat.zero_add] at HE
  all_goals first | exact ⟨rfl, a2, ⟨cc2, HE.out.1⟩, HE.out.2.1, HE.out.2.2⟩ | exact ⟨rfl, a2, cc2, HE.out.1, HE.out.2.1, HE.out.2.2⟩
end Go.Proofs.YtgpgkpciajajcaaGreatDoor

/- Package disk: a disk as its callers see it; Append. -/
namespace Go.Proofs.YtgpgkpciajajcaaGreatDoor
open Go.RowKit Go.Maps
set_option linter.unusedVariables false
set_option maxRecDepth 20000

abbrev Cont := ByteArray → Option (List Int × Nat)
def setV (V : Cont) (s : ByteArray) (o : Option (List Int × Nat)) : Cont := fun x => if x = s then o else V x
theorem setV_same (V : Cont) (s : ByteArray) (o : Option (List Int × Nat)) : setV V s o s = o := if_pos rfl
theorem setV_other (V : Cont) {s x : ByteArray} (o : Option (List Int × Nat)) (h : x ≠ s) : setV V s o x = V x := if_neg h
def cutV (keep : Int) (p : List Int × Nat) : List Int × Nat := (p.1.take (p.2 + keptN keep (p.1.length - p.2)), p.2 + keptN keep (p.1.length - p.2))
/-- The blocks that belong to a disk. -/
def OwnAll (d mb : Nat) (F : ByteArray → Option Nat) (G : Nat → FD) (k : Nat) : Prop := k = d ∨ k = mb ∨ ∃ s b, F s = some b ∧ (k = b ∨ ∃ x, (G b).a = some x ∧ k = x.block)
/-- A disk with the files V; its blocks are among B. -/
def DV (w : World) (base d mb n : Nat) (off set : Bool) (ah kp wn : Int) (V : Cont) (B : Nat → Prop) : Prop :=
  ∃ F G, DiskIs w base d mb n off set ah kp wn F G ∧ (∀ s, V s = (F s).map fun b => ((G b).zs, (G b).syn)) ∧ ∀ k, OwnAll d mb F G k → B k
/-- From one world to another: what is not among B has stayed, and what is among B' and was there before was among B. -/
def Step (w w' : World) (B B' : Nat → Prop) : Prop := Kept w w' B ∧ ∀ k, k < w.heap.size → B' k → B k
theorem Step.trans {w w1 w2 : World} {B B1 B2 : Nat → Prop} (h : Step w w1 B B1) (h' : Step w1 w2 B1 B2) : Step w w2 B B2 :=
  ⟨h.1.trans h'.1 (fun k hk hb => h.2 k hk hb), fun k hk hb => h.2 k hk (h'.2 k (Nat.lt_of_lt_of_le hk h.1.size) hb)⟩
theorem Step.grown {w w' : World} (B : Nat → Prop) (h : w.grownBy w' none) : Step w w' B B := ⟨Kept.of h (fun k hk => by cases hk), fun k _ hb => hb⟩
theorem DV.row {w : World} {base d mb n : Nat} {off set : Bool} {ah kp wn : Int} {V : Cont} {B : Nat → Prop} (h : DV w base d mb n off set ah kp wn V B) : DRow w d mb off set ah kp wn := by
  obtain ⟨F, G, hd, _⟩ := h
  exact hd.row
theorem DV.kept {w w' : World} {base d mb n : Nat} {off set : Bool} {ah kp wn : Int} {V : Cont} {B : Nat → Prop} (h : DV w base d mb n off set ah kp wn V B) (hg : w.grownBy w' none) : DV w' base d mb n off set ah kp wn V B := by
  obtain ⟨F, G, hd, hv, hb⟩ := h
  exact ⟨F, G, hd.kept hg, hv, hb⟩
theorem DV.rowed {w w' : World} {base d mb n : Nat} {off set off' set' : Bool} {ah kp wn ah' kp' wn' : Int} {V : Cont} {B : Nat → Prop} (h : DV w base d mb n off set ah kp wn V B) (hr : DRow w' d mb off' set' ah' kp' wn') (hg : Kept w w' (fun k => k = d)) : DV w' base d mb n off' set' ah' kp' wn' V B ∧ Step w w' B B := by
  obtain ⟨F, G, hd, hv, hb⟩ := h
  exact ⟨⟨F, G, hd.rowed hr hg, hv, hb⟩, hg.mono (fun k _ hk => hb k (.inl hk)), fun k _ hk => hk⟩
theorem DV.cut {w w' : World} {base d mb n : Nat} {off set off' set' : Bool} {ah kp wn ah' kp' wn' keep : Int} {F : ByteArray → Option Nat} {G : Nat → FD} {V : Cont} {B : Nat → Prop} (hd : DiskIs w' base d mb n off' set' ah' kp' wn' F (fun b => cutD keep (G b))) (hv : ∀ s, V s = (F s).map fun b => ((G b).zs, (G b).syn)) (hb : ∀ k, OwnAll d mb F G k → B k) (hk : Kept w w' (Own0 d mb F)) :
    DV w' base d mb n off' set' ah' kp' wn' (fun s => (V s).map (cutV keep)) B ∧ Step w w' B B := by
  refine ⟨⟨F, _, hd, fun s => ?_, fun k hk' => ?_⟩, hk.mono (fun k _ hk' => hb k ?_), fun k _ hk' => hk'⟩
  · show (V s).map (cutV keep) = _
    rw [hv s]
    cases F s <;> rfl
  · rcases hk' with e | e | ⟨s, b, hs, e⟩
    · exact hb k (.inl e)
    · exact hb k (.inr (.inl e))
    · exact hb k (.inr (.inr ⟨s, b, hs, e⟩))
  · rcases hk' with e | e | ⟨s, hs⟩
    · exact .inl e
    · exact .inr (.inl e)
    · exact .inr (.inr ⟨s, k, hs, .inl rfl⟩)
/-- One file is new or turned. -/
theorem DV.of {w w' : World} {base d mb n' b : Nat} {off set : Bool} {ah kp wn : Int} {F F' : ByteArray → Option Nat} {G G' : Nat → FD} {V : Cont} {B X : Nat → Prop} {s : ByteArray} {f : FD} (hb : ∀ k, OwnAll d mb F G k → B k) (hv : ∀ s, V s = (F s).map fun b => ((G b).zs, (G b).syn))
    (hd : DiskIs w' base d mb n' off set ah kp wn F' G') (hF : F' s = some b) (hG : G' b = f) (hoF : ∀ t, t ≠ s → F' t = F t) (hoG : ∀ t k, t ≠ s → F t = some k → G' k = G k) (hk : Kept w w' X) (hX : ∀ k, X k → OwnAll d mb F G k)
    (hnb : ¬ F s = some b → w.heap.size ≤ b) (hna : ∀ x, f.a = some x → (F s = some b ∧ (G b).a = some x) ∨ w.heap.size ≤ x.block ∨ (∃ y, F s = some b ∧ (G b).a = some y ∧ x.block = y.block)) :
    ∃ B', DV w' base d mb n' off set ah kp wn (setV V s (some (f.zs, f.syn))) B' ∧ Step w w' B B' := by
  refine ⟨OwnAll d mb F' G', ⟨F', G', hd, fun t => ?_, fun k hk => hk⟩, hk.mono (fun k _ hx => hb k (hX k hx)), fun k hlt hk' => ?_⟩
  · by_cases e : t = s
    · subst e
      rw [setV_same, hF, Option.map_some, hG]
    · rw [setV_other V _ e, hv t, hoF t e]
      cases hFt : F t with
      | none => rfl
      | some k => simp only [Option.map_some, hoG t k e hFt]
  · rcases hk' with e | e | ⟨t, b', ht, e⟩
    · exact hb k (.inl e)
    · exact hb k (.inr (.inl e))
    · by_cases es : t = s
      · subst es
        obtain rfl : b' = b := Option.some.inj (ht.symm.trans hF)
        rcases e with rfl | ⟨x, hx, rfl⟩
        · by_cases hFs : F t = some k
          · exact hb k (.inr (.inr ⟨t, k, hFs, .inl rfl⟩))
          · have := hnb hFs; omega
        · rw [hG] at hx
          rcases hna x hx with ⟨h1, h2⟩ | h1 | ⟨y, h1, h2, h3⟩
          · exact hb _ (.inr (.inr ⟨t, b', h1, .inr ⟨x, h2, rfl⟩⟩))
          · omega
          · exact hb _ (.inr (.inr ⟨t, b', h1, .inr ⟨y, h2, h3⟩⟩))
      · rw [hoF t es] at ht
        rw [hoG t b' es ht] at e
        exact hb k (.inr (.inr ⟨t, b', ht, e⟩))
end Go.Proofs.YtgpgkpciajajcaaGreatDoor

