/- Package disk: a write, done or cut. (Printed by mk_write.py.) -/
import Derived.Test.YtdnkdopjlobklaaDk5
namespace Go.Proofs.Ytdnkdopjlobklaa
open Go.RowKit Go.Maps
set_option linter.unusedVariables false
set_option maxRecDepth 20000

theorem drow_set {w : World} {d mb : Nat} {off set : Bool} {ah kp wn : Int} (h : DRow w d mb off set ah kp wn) (i : Nat) (u : Value) {off' set' : Bool} {ah' kp' wn' : Int} (hu : ∀ j, j < 6 → (if j = i then u else DiskF mb off set ah kp wn j) = DiskF mb off' set' ah' kp' wn' j) : DRow (w.setCell ⟨d, i, none⟩ u) d mb off' set' ah' kp' wn' := (h.set i u).congr hu
theorem kept_set {w : World} {d i : Nat} {u : Value} : Kept w (w.setCell ⟨d, i, none⟩ u) (fun k => k = d) := Kept.of (gb_set (g := d) rfl) (fun k hk => by cases hk; rfl)
set_option maxHeartbeats 2000000 in
theorem d_writeGo46 (base d mb n : Nat) (lands off : Bool) (ah kp wn : Int) (F : ByteArray → Option Nat) (G : Nat → FD) (caps : Array Value) (P : World → Prop) (w : World) (h : DiskIs w base d mb n off false ah kp wn F G) (hw : 0 ≤ wn ∧ wn ≤ 1000000000)
    (hcl : ∀ w1, DiskIs w1 base d mb n off false ah kp (wn + 1) F G → Kept w w1 (fun k => k = d) → Calls Try.prog 46 caps w1 fun e w' => e = .returned (.tuple #[]) ∧ P w') :
    Calls Try.prog 45 #[.pointer (some ⟨d, 0, none⟩), .bool lands, .func (.func 46) #[] caps] w fun e w' => e = .returned (.int .i64 0) ∧ P w' := by
  obtain ⟨c0, c1, c2, c3, c4, c5⟩ := h.row.cells
  have f5 := h.row.frozen 5
  have hr1 : DRow (w.setCell ⟨d, 5, none⟩ (.int .u64 (wn + 1))) d mb off false ah kp (wn + 1) := drow_set h.row 5 _ (six rfl rfl rfl rfl rfl rfl)
  have HCL : Hid (Calls Try.prog 46 caps (w.setCell ⟨d, 5, none⟩ (.int .u64 (wn + 1))) fun e w' => e = .returned (.tuple #[]) ∧ P w') := hcl _ (h.rowed hr1 kept_set) kept_set
  have hwb : 0 ≤ wn + 1 ∧ wn + 1 ≤ 1000000001 := by omega
  clear h hcl hr1 c0 c1 c3 c4
  go_enter Try.func45, Try.ntmps45
  go_wp2_with fail
  refine HCL.out.mono ?_
  rintro e w' ⟨rfl, hp⟩
  have HP : Hid (P w') := hp
  clear hp
  go_wp2
  go_ret
  exact ⟨rfl, HP.out⟩
set_option maxHeartbeats 2000000 in
theorem d_writeArmed46 (base d mb n : Nat) (lands off : Bool) (ah kp wn : Int) (F : ByteArray → Option Nat) (G : Nat → FD) (caps : Array Value) (P : World → Prop) (w : World) (h : DiskIs w base d mb n off true ah kp wn F G) (hw : 0 ≤ wn ∧ wn ≤ 1000000000) (ha : 0 < ah ∧ ah ≤ 9223372036854775807)
    (hcl : ∀ w1, DiskIs w1 base d mb n off true (ah - 1) kp (wn + 1) F G → Kept w w1 (fun k => k = d) → Calls Try.prog 46 caps w1 fun e w' => e = .returned (.tuple #[]) ∧ P w') :
    Calls Try.prog 45 #[.pointer (some ⟨d, 0, none⟩), .bool lands, .func (.func 46) #[] caps] w fun e w' => e = .returned (.int .i64 0) ∧ P w' := by
  obtain ⟨c0, c1, c2, c3, c4, c5⟩ := h.row.cells
  have f5 := h.row.frozen 5
  have f3 := h.row.frozen 3
  have hr1 : DRow (w.setCell ⟨d, 5, none⟩ (.int .u64 (wn + 1))) d mb off true ah kp (wn + 1) := drow_set h.row 5 _ (six rfl rfl rfl rfl rfl rfl)
  have hr2 : DRow ((w.setCell ⟨d, 5, none⟩ (.int .u64 (wn + 1))).setCell ⟨d, 3, none⟩ (.int .i64 (ah - 1))) d mb off true (ah - 1) kp (wn + 1) := drow_set hr1 3 _ (six rfl rfl rfl rfl rfl rfl)
  have hk2 : Kept w ((w.setCell ⟨d, 5, none⟩ (.int .u64 (wn + 1))).setCell ⟨d, 3, none⟩ (.int .i64 (ah - 1))) (fun k => k = d) := kept_set.trans kept_set (fun k _ hk => hk)
  have HCL : Hid (Calls Try.prog 46 caps ((w.setCell ⟨d, 5, none⟩ (.int .u64 (wn + 1))).setCell ⟨d, 3, none⟩ (.int .i64 (ah - 1))) fun e w' => e = .returned (.tuple #[]) ∧ P w') := hcl _ (h.rowed hr2 hk2) hk2
  have hwb : 0 ≤ wn + 1 ∧ wn + 1 ≤ 1000000001 := by omega
  have q0 : (ah == 0) = false := by simp; omega
  have hab : 0 ≤ ah - 1 ∧ ah - 1 ≤ 9223372036854775807 := by omega
  clear h hcl hr1 hr2 hk2 c0 c1 c4
  go_enter Try.func45, Try.ntmps45
  go_wp2_with fail
  refine HCL.out.mono ?_
  rintro e w' ⟨rfl, hp⟩
  have HP : Hid (P w') := hp
  clear hp
  go_wp2
  go_ret
  exact ⟨rfl, HP.out⟩
set_option maxHeartbeats 2000000 in
theorem d_writeGo48 (base d mb n : Nat) (lands off : Bool) (ah kp wn : Int) (F : ByteArray → Option Nat) (G : Nat → FD) (caps : Array Value) (P : World → Prop) (w : World) (h : DiskIs w base d mb n off false ah kp wn F G) (hw : 0 ≤ wn ∧ wn ≤ 1000000000)
    (hcl : ∀ w1, DiskIs w1 base d mb n off false ah kp (wn + 1) F G → Kept w w1 (fun k => k = d) → Calls Try.prog 48 caps w1 fun e w' => e = .returned (.tuple #[]) ∧ P w') :
    Calls Try.prog 45 #[.pointer (some ⟨d, 0, none⟩), .bool lands, .func (.func 48) #[] caps] w fun e w' => e = .returned (.int .i64 0) ∧ P w' := by
  obtain ⟨c0, c1, c2, c3, c4, c5⟩ := h.row.cells
  have f5 := h.row.frozen 5
  have hr1 : DRow (w.setCell ⟨d, 5, none⟩ (.int .u64 (wn + 1))) d mb off false ah kp (wn + 1) := drow_set h.row 5 _ (six rfl rfl rfl rfl rfl rfl)
  have HCL : Hid (Calls Try.prog 48 caps (w.setCell ⟨d, 5, none⟩ (.int .u64 (wn + 1))) fun e w' => e = .returned (.tuple #[]) ∧ P w') := hcl _ (h.rowed hr1 kept_set) kept_set
  have hwb : 0 ≤ wn + 1 ∧ wn + 1 ≤ 1000000001 := by omega
  clear h hcl hr1 c0 c1 c3 c4
  go_enter Try.func45, Try.ntmps45
  go_wp2_with fail
  refine HCL.out.mono ?_
  rintro e w' ⟨rfl, hp⟩
  have HP : Hid (P w') := hp
  clear hp
  go_wp2
  go_ret
  exact ⟨rfl, HP.out⟩
set_option maxHeartbeats 2000000 in
theorem d_writeArmed48 (base d mb n : Nat) (lands off : Bool) (ah kp wn : Int) (F : ByteArray → Option Nat) (G : Nat → FD) (caps : Array Value) (P : World → Prop) (w : World) (h : DiskIs w base d mb n off true ah kp wn F G) (hw : 0 ≤ wn ∧ wn ≤ 1000000000) (ha : 0 < ah ∧ ah ≤ 9223372036854775807)
    (hcl : ∀ w1, DiskIs w1 base d mb n off true (ah - 1) kp (wn + 1) F G → Kept w w1 (fun k => k = d) → Calls Try.prog 48 caps w1 fun e w' => e = .returned (.tuple #[]) ∧ P w') :
    Calls Try.prog 45 #[.pointer (some ⟨d, 0, none⟩), .bool lands, .func (.func 48) #[] caps] w fun e w' => e = .returned (.int .i64 0) ∧ P w' := by
  obtain ⟨c0, c1, c2, c3, c4, c5⟩ := h.row.cells
  have f5 := h.row.frozen 5
  have f3 := h.row.frozen 3
  have hr1 : DRow (w.setCell ⟨d, 5, none⟩ (.int .u64 (wn + 1))) d mb off true ah kp (wn + 1) := drow_set h.row 5 _ (six rfl rfl rfl rfl rfl rfl)
  have hr2 : DRow ((w.setCell ⟨d, 5, none⟩ (.int .u64 (wn + 1))).setCell ⟨d, 3, none⟩ (.int .i64 (ah - 1))) d mb off true (ah - 1) kp (wn + 1) := drow_set hr1 3 _ (six rfl rfl rfl rfl rfl rfl)
  have hk2 : Kept w ((w.setCell ⟨d, 5, none⟩ (.int .u64 (wn + 1))).setCell ⟨d, 3, none⟩ (.int .i64 (ah - 1))) (fun k => k = d) := kept_set.trans kept_set (fun k _ hk => hk)
  have HCL : Hid (Calls Try.prog 48 caps ((w.setCell ⟨d, 5, none⟩ (.int .u64 (wn + 1))).setCell ⟨d, 3, none⟩ (.int .i64 (ah - 1))) fun e w' => e = .returned (.tuple #[]) ∧ P w') := hcl _ (h.rowed hr2 hk2) hk2
  have hwb : 0 ≤ wn + 1 ∧ wn + 1 ≤ 1000000001 := by omega
  have q0 : (ah == 0) = false := by simp; omega
  have hab : 0 ≤ ah - 1 ∧ ah - 1 ≤ 9223372036854775807 := by omega
  clear h hcl hr1 hr2 hk2 c0 c1 c4
  go_enter Try.func45, Try.ntmps45
  go_wp2_with fail
  refine HCL.out.mono ?_
  rintro e w' ⟨rfl, hp⟩
  have HP : Hid (P w') := hp
  clear hp
  go_wp2
  go_ret
  exact ⟨rfl, HP.out⟩
set_option maxHeartbeats 2000000 in
theorem d_writeGo52 (base d mb n : Nat) (lands off : Bool) (ah kp wn : Int) (F : ByteArray → Option Nat) (G : Nat → FD) (caps : Array Value) (P : World → Prop) (w : World) (h : DiskIs w base d mb n off false ah kp wn F G) (hw : 0 ≤ wn ∧ wn ≤ 1000000000)
    (hcl : ∀ w1, DiskIs w1 base d mb n off false ah kp (wn + 1) F G → Kept w w1 (fun k => k = d) → Calls Try.prog 52 caps w1 fun e w' => e = .returned (.tuple #[]) ∧ P w') :
    Calls Try.prog 45 #[.pointer (some ⟨d, 0, none⟩), .bool lands, .func (.func 52) #[] caps] w fun e w' => e = .returned (.int .i64 0) ∧ P w' := by
  obtain ⟨c0, c1, c2, c3, c4, c5⟩ := h.row.cells
  have f5 := h.row.frozen 5
  have hr1 : DRow (w.setCell ⟨d, 5, none⟩ (.int .u64 (wn + 1))) d mb off false ah kp (wn + 1) := drow_set h.row 5 _ (six rfl rfl rfl rfl rfl rfl)
  have HCL : Hid (Calls Try.prog 52 caps (w.setCell ⟨d, 5, none⟩ (.int .u64 (wn + 1))) fun e w' => e = .returned (.tuple #[]) ∧ P w') := hcl _ (h.rowed hr1 kept_set) kept_set
  have hwb : 0 ≤ wn + 1 ∧ wn + 1 ≤ 1000000001 := by omega
  clear h hcl hr1 c0 c1 c3 c4
  go_enter Try.func45, Try.ntmps45
  go_wp2_with fail
  refine HCL.out.mono ?_
  rintro e w' ⟨rfl, hp⟩
  have HP : Hid (P w') := hp
  clear hp
  go_wp2
  go_ret
  exact ⟨rfl, HP.out⟩
set_option maxHeartbeats 2000000 in
theorem d_writeArmed52 (base d mb n : Nat) (lands off : Bool) (ah kp wn : Int) (F : ByteArray → Option Nat) (G : Nat → FD) (caps : Array Value) (P : World → Prop) (w : World) (h : DiskIs w base d mb n off true ah kp wn F G) (hw : 0 ≤ wn ∧ wn ≤ 1000000000) (ha : 0 < ah ∧ ah ≤ 9223372036854775807)
    (hcl : ∀ w1, DiskIs w1 base d mb n off true (ah - 1) kp (wn + 1) F G → Kept w w1 (fun k => k = d) → Calls Try.prog 52 caps w1 fun e w' => e = .returned (.tuple #[]) ∧ P w') :
    Calls Try.prog 45 #[.pointer (some ⟨d, 0, none⟩), .bool lands, .func (.func 52) #[] caps] w fun e w' => e = .returned (.int .i64 0) ∧ P w' := by
  obtain ⟨c0, c1, c2, c3, c4, c5⟩ := h.row.cells
  have f5 := h.row.frozen 5
  have f3 := h.row.frozen 3
  have hr1 : DRow (w.setCell ⟨d, 5, none⟩ (.int .u64 (wn + 1))) d mb off true ah kp (wn + 1) := drow_set h.row 5 _ (six rfl rfl rfl rfl rfl rfl)
  have hr2 : DRow ((w.setCell ⟨d, 5, none⟩ (.int .u64 (wn + 1))).setCell ⟨d, 3, none⟩ (.int .i64 (ah - 1))) d mb off true (ah - 1) kp (wn + 1) := drow_set hr1 3 _ (six rfl rfl rfl rfl rfl rfl)
  have hk2 : Kept w ((w.setCell ⟨d, 5, none⟩ (.int .u64 (wn + 1))).setCell ⟨d, 3, none⟩ (.int .i64 (ah - 1))) (fun k => k = d) := kept_set.trans kept_set (fun k _ hk => hk)
  have HCL : Hid (Calls Try.prog 52 caps ((w.setCell ⟨d, 5, none⟩ (.int .u64 (wn + 1))).setCell ⟨d, 3, none⟩ (.int .i64 (ah - 1))) fun e w' => e = .returned (.tuple #[]) ∧ P w') := hcl _ (h.rowed hr2 hk2) hk2
  have hwb : 0 ≤ wn + 1 ∧ wn + 1 ≤ 1000000001 := by omega
  have q0 : (ah == 0) = false := by simp; omega
  have hab : 0 ≤ ah - 1 ∧ ah - 1 ≤ 9223372036854775807 := by omega
  clear h hcl hr1 hr2 hk2 c0 c1 c4
  go_enter Try.func45, Try.ntmps45
  go_wp2_with fail
  refine HCL.out.mono ?_
  rintro e w' ⟨rfl, hp⟩
  have HP : Hid (P w') := hp
  clear hp
  go_wp2
  go_ret
  exact ⟨rfl, HP.out⟩
set_option maxHeartbeats 2000000 in
theorem d_writeLost (base d mb n : Nat) (off : Bool) (kp wn : Int) (F : ByteArray → Option Nat) (G : Nat → FD) (cl : Value) (w : World) (h : DiskIs w base d mb n off true 0 kp wn F G) (hw : 0 ≤ wn ∧ wn ≤ 1000000000) (hk : -9223372036854775808 ≤ kp ∧ kp ≤ 9223372036854775807) :
    Calls Try.prog 45 #[.pointer (some ⟨d, 0, none⟩), .bool false, cl] w fun e w' => e = .returned (.int .i64 60) ∧ DiskIs w' base d mb n true false 0 0 (wn + 1) F (fun b => cutD kp (G b)) ∧ Kept w w' (Own0 d mb F) := by
  obtain ⟨c0, c1, c2, c3, c4, c5⟩ := h.row.cells
  have f5 := h.row.frozen 5
  have hr1 : DRow (w.setCell ⟨d, 5, none⟩ (.int .u64 (wn + 1))) d mb off true 0 kp (wn + 1) := drow_set h.row 5 _ (six rfl rfl rfl rfl rfl rfl)
  have HC : Hid (Calls Try.prog 50 #[.pointer (some ⟨d, 0, none⟩), .int .i64 kp] (w.setCell ⟨d, 5, none⟩ (.int .u64 (wn + 1))) fun e w' => e = .returned (.tuple #[]) ∧ DiskIs w' base d mb n true true 0 kp (wn + 1) F (fun b => cutD kp (G b)) ∧ Kept (w.setCell ⟨d, 5, none⟩ (.int .u64 (wn + 1))) w' (Own0 d mb F)) := d_cut base d mb n off true 0 kp (wn + 1) kp F G _ (h.rowed hr1 kept_set) hk
  have hwb : 0 ≤ wn + 1 ∧ wn + 1 ≤ 1000000001 := by omega
  have HK0 : Hid (Kept w (w.setCell ⟨d, 5, none⟩ (.int .u64 (wn + 1))) (Own0 d mb F)) := kept_set.mono (fun k _ hk => .inl hk)
  clear h hr1 c0 c1 hk
  go_enter Try.func45, Try.ntmps45
  go_wp2_with fail
  refine HC.out.mono ?_
  rintro e w1 ⟨rfl, hd1, hk1⟩
  have HD1 : Hid (DiskIs w1 base d mb n true true 0 kp (wn + 1) F (fun b => cutD kp (G b))) := hd1
  have HK1 : Hid (Kept w w1 (Own0 d mb F)) := HK0.out.trans hk1 (fun k _ hk => hk)
  clear hd1 hk1
  go_wp2_with fail
  refine (d_disarm d mb true true 0 kp (wn + 1) w1 HD1.out.row).mono ?_
  rintro e w2 ⟨rfl, hr2, hg2⟩
  have HD2 : Hid (DiskIs w2 base d mb n true false 0 0 (wn + 1) F (fun b => cutD kp (G b))) := HD1.out.rowed hr2 (Kept.of hg2 (fun k hk => by cases hk; rfl))
  have HK2 : Hid (Kept w w2 (Own0 d mb F)) := HK1.out.trans (Kept.of hg2 (X := fun k => k = d) (fun k hk => by cases hk; rfl)) (fun k _ hk => .inl hk)
  clear hr2 hg2
  go_wp2
  go_ret
  exact ⟨rfl, HD2.out, HK2.out⟩
set_option maxHeartbeats 2000000 in
theorem d_writeCut46 (base d mb n : Nat) (off : Bool) (kp wn : Int) (F : ByteArray → Option Nat) (G : Nat → FD) (caps : Array Value) (Q : World → Nat → (ByteArray → Option Nat) → (Nat → FD) → Prop) (w : World) (h : DiskIs w base d mb n off true 0 kp wn F G) (hw : 0 ≤ wn ∧ wn ≤ 1000000000) (hk : -9223372036854775808 ≤ kp ∧ kp ≤ 9223372036854775807)
    (hcl : ∀ w1, DiskIs w1 base d mb n off true 0 kp (wn + 1) F G → Kept w w1 (fun k => k = d) → Calls Try.prog 46 caps w1 fun e w' => e = .returned (.tuple #[]) ∧ ∃ n' F' G', DiskIs w' base d mb n' off true 0 kp (wn + 1) F' G' ∧ Q w' n' F' G') :
    Calls Try.prog 45 #[.pointer (some ⟨d, 0, none⟩), .bool true, .func (.func 46) #[] caps] w fun e w' => e = .returned (.int .i64 60) ∧ ∃ w1 n' F' G', Q w1 n' F' G' ∧ DiskIs w' base d mb n' true false 0 0 (wn + 1) F' (fun b => cutD kp (G' b)) ∧ Kept w1 w' (Own0 d mb F') := by
  obtain ⟨c0, c1, c2, c3, c4, c5⟩ := h.row.cells
  have f5 := h.row.frozen 5
  have hr1 : DRow (w.setCell ⟨d, 5, none⟩ (.int .u64 (wn + 1))) d mb off true 0 kp (wn + 1) := drow_set h.row 5 _ (six rfl rfl rfl rfl rfl rfl)
  have HCL : Hid (Calls Try.prog 46 caps (w.setCell ⟨d, 5, none⟩ (.int .u64 (wn + 1))) fun e w' => e = .returned (.tuple #[]) ∧ ∃ n' F' G', DiskIs w' base d mb n' off true 0 kp (wn + 1) F' G' ∧ Q w' n' F' G') := hcl _ (h.rowed hr1 kept_set) kept_set
  have hwb : 0 ≤ wn + 1 ∧ wn + 1 ≤ 1000000001 := by omega
  clear h hcl hr1 c0 c1
  go_enter Try.func45, Try.ntmps45
  go_wp2_with fail
  refine HCL.out.mono ?_
  rintro e w1 ⟨rfl, n', F', G', hd1, hq⟩
  have HD1 : Hid (DiskIs w1 base d mb n' off true 0 kp (wn + 1) F' G') := hd1
  have HQ : Hid (Q w1 n' F' G') := hq
  obtain ⟨x0, x1, x2, x3, x4, x5⟩ := hd1.row.cells
  clear hd1 hq x0 x1 x2 x3 x5
  go_wp2_with fail
  refine (d_cut base d mb n' off true 0 kp (wn + 1) kp F' G' w1 HD1.out hk).mono ?_
  rintro e w2 ⟨rfl, hd2, hk2⟩
  have HD2 : Hid (DiskIs w2 base d mb n' true true 0 kp (wn + 1) F' (fun b => cutD kp (G' b))) := hd2
  have HK2 : Hid (Kept w1 w2 (Own0 d mb F')) := hk2
  clear hd2 hk2
  go_wp2_with fail
  refine (d_disarm d mb true true 0 kp (wn + 1) w2 HD2.out.row).mono ?_
  rintro e w3 ⟨rfl, hr3, hg3⟩
  have HD3 : Hid (DiskIs w3 base d mb n' true false 0 0 (wn + 1) F' (fun b => cutD kp (G' b))) := HD2.out.rowed hr3 (Kept.of hg3 (fun k hk => by cases hk; rfl))
  have HK3 : Hid (Kept w1 w3 (Own0 d mb F')) := HK2.out.trans (Kept.of hg3 (X := fun k => k = d) (fun k hk => by cases hk; rfl)) (fun k _ hk => .inl hk)
  clear hr3 hg3
  go_wp2
  go_ret
  exact ⟨rfl, w1, n', F', G', HQ.out, HD3.out, HK3.out⟩
end Go.Proofs.Ytdnkdopjlobklaa
