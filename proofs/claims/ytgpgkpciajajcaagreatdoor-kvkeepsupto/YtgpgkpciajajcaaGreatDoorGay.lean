/- Several texts in one: Zn, Zo, Zt. -/
import Derived.Test.YtgpgkpciajajcaaGreatDoorGaf
import Derived.Test.YtgpgkpciajajcaaGreatDoorGav
/- Package disk: Append of nothing, to a file that is not there; of too much. (Printed by mk_nil.py.) -/
namespace Go.Proofs.YtgpgkpciajajcaaGreatDoor
open Go.RowKit Go.Maps
set_option linter.unusedVariables false
set_option maxRecDepth 20000

theorem step_append_bN {ops : Array Oper} {o : Oper} {a : Act} {w : World} {K : Act → World → Prop} {Q : Exit → Act → World → Prop} {E : Prop} (hgd : o.guard = none) (s x : Operand)
    (ho : o.op = .call { callee := .builtin .append, args := #[s, x], argTypes := #[37, 37] }) (base : Nat) (v : Value) (n : Nat) (xs : List Int) (hs : a.eval s = v) (hown : SOwn byteE 5 w base v n xs)
    (hx : a.eval x = .slice none 0 0) (h : K (a.put o.dst v) w) : if Region.wanted o (yielded ops a.tmps) = true then Oper.wp Tryz.prog o a w K Q else E := by
  have hw : Region.wanted o (yielded ops a.tmps) = true := by simp [Region.wanted, hgd]
  rw [if_pos hw]
  obtain ⟨i0, z, hi, hz0, hz1, hz2, hz3⟩ := byteET.info
  have hrun := run_append_owned_none (P := Tryz.prog) (w := w) base 37 o.type 5 i0 byteE.size byteET.under hi v n (byteE.flat xs) hown
  unfold Oper.wp
  simp [execOp, ho, resolve, invoke, builtin, hs, hx, hrun, Result.andThen]
  exact h
set_option maxHeartbeats 4000000 in
theorem d_appNewN (base d mb n B3 B4 B5 : Nat) (off set : Bool) (ah kp wn : Int) (F : ByteArray → Option Nat) (G : Nat → FD) (s : ByteArray) (w : World) (h : DiskIs w base d mb n off set ah kp wn F G) (hs : F s = none) (hss : s.size ≤ 64) (hn : n ≤ 1048576)
    (hB3 : w.rowIs B3 23 1 (fun _ => .pointer (some ⟨d, 0, none⟩))) (hB4 : w.rowIs B4 9 1 (fun _ => .string s)) (hB5 : w.rowIs B5 37 1 (fun _ => .slice none 0 0)) (hb : base ≤ w.heap.size) :
    Calls Tryz.prog 163 #[.pointer (some ⟨B3, 0, none⟩), .pointer (some ⟨B4, 0, none⟩), .pointer (some ⟨B5, 0, none⟩)] w fun e w' => e = .returned (.tuple #[]) ∧ ∃ a' c', DiskIs w' base d mb (n + 1) off set ah kp wn (setF F s (some w.heap.size)) (updG (updG G w.heap.size ⟨none, 0, [], 0⟩) w.heap.size ⟨a', c', [], 0⟩) ∧ Kept w w' (fun k => k = mb) ∧ ∀ x, a' = some x → w.heap.size ≤ x.block := by
  obtain ⟨c0, c1, c2, c3, c4, c5⟩ := h.row.cells
  have p3 : w.cell? ⟨B3, 0, none⟩ = some (.pointer (some ⟨d, 0, none⟩)) := hB3.cell (i := 0) (by omega)
  have p4 : w.cell? ⟨B4, 0, none⟩ = some (.string s) := hB4.cell (i := 0) (by omega)
  have p5 : w.cell? ⟨B5, 0, none⟩ = some (.slice none 0 0) := hB5.cell (i := 0) (by omega)
  have hlook : (Instr.lookup 60 (.map (some mb)) (.string s) false).run Tryz.prog w.drew = .ok (.pointer none) w.drew := by
    have := h.drew.map.look s hss
    rw [hs] at this
    exact this
  have hga : w.grownBy ((w.alloc newFile).drew.drew) none := gb_drew (gb_drew (World.grownBy_alloc w newFile none))
  have hmp : MapIs ((w.alloc newFile).drew.drew) mb n F := h.map.kept hga (by simp)
  obtain ⟨w1, hput, hm1, hg1⟩ := hmp.put s hss hn w.heap.size
  have hg1' : (w.alloc newFile).grownBy w1 (some mb) := ⟨hg1.os, hg1.tape, hg1.output, hg1.size, hg1.block⟩
  have hD1 := h.add hs hm1 hg1' hb
  have hs1 : (w.alloc newFile).heap.size = w.heap.size + 1 := Array.size_push _
  have hB3l := hB3.lt
  have hB4l := hB4.lt
  have hB5l := hB5.lt
  have hdl := h.row.lt
  have p5' : w1.cell? ⟨B5, 0, none⟩ = some (.slice none 0 0) := hg1.cell (hga.cell p5 (by simp)) (fun e => map_ne hB5 h.map (Option.some.inj e))
  have hfile : FileIs w1 base w.heap.size none 0 [] 0 := by have := (hD1.1.file s w.heap.size (setF_same F s _)).1; rw [updG_same] at this; exact this
  have b0 : w1.cell? ⟨w.heap.size, 0, none⟩ = some (.slice none 0 0) := hfile.row.cell (i := 0) (by omega)
  have HRW : Hid (w1.drew.rowIs w.heap.size 136 2 (FileF (.slice none 0 0) 0)) := hfile.row
  have HD1 : Hid (DiskIs w1 base d mb (n + 1) off set ah kp wn (setF F s (some w.heap.size)) (updG G w.heap.size ⟨none, 0, [], 0⟩) ∧ Kept w w1 (fun k => k = mb)) := hD1
  have HBS : Hid (base ≤ w1.drew.heap.size) := Nat.le_trans hb (Nat.le_trans hga.size hg1.size)
  have hput' : (Instr.mapUpdate 60 (.map (some mb)) (.string s) (.pointer (some ⟨w.heap.size, 0, none⟩))).run Tryz.prog ((w.alloc (.cells #[.slice none 0 0, .int .i64 0] 136)).drew.drew) = .ok () w1 := hput
  have n3 : B3 ≠ w.heap.size := by omega
  have n4 : B4 ≠ w.heap.size := by omega
  have nd : d ≠ w.heap.size := by omega
  have f02 := HRW.out.frozen 0
  have hend := HD1.out.1.appended (zs := []) (a2 := none) (c2 := 0) (w2 := w1.drew) (updG_same G w.heap.size ⟨none, 0, [], 0⟩) (setF_same F s (some w.heap.size)) (fun z hz => by cases hz) (by simp) (SOwn.nil 5 _ _) (gb_drew (World.grownBy.refl _ _)) (.inl rfl)
  have HE : Hid (DiskIs (w1.drew.setCell ⟨w.heap.size, 0, none⟩ (.slice none 0 0)) base d mb (n + 1) off set ah kp wn (setF F s (some w.heap.size)) (updG (updG G w.heap.size ⟨none, 0, [], 0⟩) w.heap.size ⟨none, 0, [], 0⟩) ∧ Kept w (w1.drew.setCell ⟨w.heap.size, 0, none⟩ (.slice none 0 0)) (fun k => k = mb)) := ⟨hend.1, HD1.out.2.trans hend.2.1 (fun k hk hx => by
      rcases hx with e | ⟨x, hx, _⟩
      · omega
      · cases hx)⟩
  clear hend
  clear h hs hB3 hB4 hB5 hfile hb c1 c2 c3 c4 c5 hga hmp hm1 hg1 hg1' hD1 hs1 hput
  go_enter Tryz.func163, Tryz.ntmps163
  go_wp2_with fail
  go_region
  go_wp2_with fail
  go_region
  go_wp2_with fail
  go_region_law (refine step_append_bN rfl (.tmp 24) (.tmp 25) rfl base (.slice none 0 0) 0 [] (by simp [Act.eval]) (SOwn.nil 5 _ _) (by simp [Act.eval]) ?_)
  all_goals go_wp2
  all_goals go_end0
  all_goals exact ⟨rfl, none, 0, HE.out.1, HE.out.2, fun x hx => by cases hx⟩
set_option maxHeartbeats 4000000 in
theorem v_app1N (base d mb n B3 B4 B5 : Nat) (off set : Bool) (ah kp wn : Int) (V : Cont) (B : Nat → Prop) (s : ByteArray) (w : World) (F : ByteArray → Option Nat) (G : Nat → FD) (h : DiskIs w base d mb n off set ah kp wn F G) (hv : ∀ s, V s = (F s).map fun b => ((G b).zs, (G b).syn)) (hB : ∀ k, OwnAll d mb F G k → B k) (hss : s.size ≤ 64) (hn : n ≤ 1048576)
    (hB3 : w.rowIs B3 23 1 (fun _ => .pointer (some ⟨d, 0, none⟩))) (hB4 : w.rowIs B4 9 1 (fun _ => .string s)) (hB5 : w.rowIs B5 37 1 (fun _ => .slice none 0 0)) (hVs : V s = none) (hb : base ≤ w.heap.size) :
    Calls Tryz.prog 163 #[.pointer (some ⟨B3, 0, none⟩), .pointer (some ⟨B4, 0, none⟩), .pointer (some ⟨B5, 0, none⟩)] w fun e w' => e = .returned (.tuple #[]) ∧ ∃ n' F' G' B', n' ≤ n + 1 ∧ DiskIs w' base d mb n' off set ah kp wn F' G' ∧ (∀ t, setV V s (some ([], 0)) t = (F' t).map fun b => ((G' b).zs, (G' b).syn)) ∧ (∀ k, OwnAll d mb F' G' k → B' k) ∧ Step w w' B B' := by
  have hvs := hv s
  cases hF : F s with
  | none =>
    refine (d_appNewN base d mb n B3 B4 B5 off set ah kp wn F G s w h hF hss hn hB3 hB4 hB5 hb).mono ?_
    rintro e w' ⟨rfl, a', c', hd, hk, hx⟩
    obtain ⟨B', ⟨F2, G2, h1, h2, h3⟩, h4⟩ := DV.of (f := ⟨a', c', [], 0⟩) (s := s) (b := w.heap.size) hB hv hd (setF_same F s _) (updG_same _ _ _) (fun t ht => setF_other F _ ht) (fun t k ht hk => by
      have := (h.lt t k hk).1
      rw [updG_other _ _ (by omega), updG_other _ _ (by omega)]) hk (fun k hk => .inr (.inl hk)) (fun _ => Nat.le_refl _) (fun x hx' => .inr (.inl (hx x hx')))
    exact ⟨rfl, n + 1, F2, G2, B', Nat.le_refl _, h1, h2, h3, h4⟩
  | some b =>
    exfalso
    rw [hVs, hF] at hvs
    cases hvs
set_option maxHeartbeats 4000000 in
theorem v_appendByN (base d mb n : Nat) (set : Bool) (ah kp wn : Int) (V : Cont) (B : Nat → Prop) (s : ByteArray) (R : Int → World → Prop) (w : World) (h : DV w base d mb n false set ah kp wn V B) (hnm : nameB s = true) (hn : n < 1048576) (hVs : V s = none)
    (hw : Calls Tryz.prog 136 #[.pointer (some ⟨d, 0, none⟩), .bool true, .func (.func 163) #[] #[.pointer (some ⟨w.heap.size, 0, none⟩), .pointer (some ⟨w.heap.size + 1, 0, none⟩), .pointer (some ⟨w.heap.size + 1 + 1, 0, none⟩)]] (box3 w d s (.slice none 0 0)) fun e w' => ∃ c, e = .returned (.int .i64 c) ∧ R c w') :
    Calls Tryz.prog 134 #[.pointer (some ⟨d, 0, none⟩), .string s, .slice none 0 0] w fun e w' => ∃ c, e = .returned (.int .i64 c) ∧ R c w' := by
  obtain ⟨hg, r3, r4, r5, hsl⟩ := box3_facts w d s (.slice none 0 0)
  have hss := nameB_size hnm
  have HRC : Hid (Calls Tryz.prog 161 #[.pointer (some ⟨d, 0, none⟩), .slice (some ⟨w.heap.size + 1 + 1 + 1, 0, none⟩) 1 1] (box3 w d s (.slice none 0 0)) fun e w' => e = .returned (.int .i64 0) ∧ (box3 w d s (.slice none 0 0)) = w') := by
    have := d_reach d mb false set ah kp wn _ [s] 1 1 _ (h.row.of_block (hg.block d h.row.lt (by simp))) hsl rfl (by omega) (by intro x hx; simp only [List.mem_singleton] at hx; subst hx; omega)
    rw [show reachC false [s] = 0 by simp [reachC, hnm]] at this
    exact this
  have HRM : Hid (Calls Tryz.prog 162 #[.pointer (some ⟨d, 0, none⟩), .string s, .int .i64 (0 : Nat)] (box3 w d s (.slice none 0 0)) fun e w' => e = .returned (.bool true) ∧ (box3 w d s (.slice none 0 0)) = w') := by
    obtain ⟨F, G, hd, hv, _⟩ := h
    have hd4 := hd.kept hg
    have hvs := hv s
    cases hF : F s with
    | none =>
      have := d_roomNew d mb n false set ah kp wn ((0 : Nat) : Int) F s _ hd4.row hd4.map hss hF hn
      rw [decide_eq_true (show ((0 : Nat) : Int) ≤ 4194304 by decide)] at this
      exact this
    | some b =>
      exfalso
      rw [hVs, hF] at hvs
      cases hvs
  have HW : Hid (Calls Tryz.prog 136 #[.pointer (some ⟨d, 0, none⟩), .bool true, .func (.func 163) #[] #[.pointer (some ⟨w.heap.size, 0, none⟩), .pointer (some ⟨w.heap.size + 1, 0, none⟩), .pointer (some ⟨w.heap.size + 1 + 1, 0, none⟩)]] (box3 w d s (.slice none 0 0)) fun e w' => ∃ c, e = .returned (.int .i64 c) ∧ R c w') := hw
  unfold box3 at HRC HRM HW
  clear h hg r3 r4 r5 hsl hw hn
  go_enter Tryz.func134, Tryz.ntmps134
  go_wp2_with fail
  refine HRC.out.mono ?_
  rintro e w' ⟨rfl, rfl⟩
  go_wp2_with fail
  refine HRM.out.mono ?_
  rintro e w' ⟨rfl, rfl⟩
  go_wp2_with fail
  refine HW.out.mono ?_
  rintro e w' ⟨c, rfl, hR⟩
  have HR : Hid (R c w') := hR
  clear hR
  go_wp2
  go_ret
  exact ⟨c, rfl, HR.out⟩
set_option maxHeartbeats 4000000 in
theorem app_closN (base d mb n : Nat) (off set set' : Bool) (ah ah' kp wn wn' : Int) (V : Cont) (B : Nat → Prop) (s : ByteArray) (F : ByteArray → Option Nat) (G : Nat → FD) (w w1 : World) (hd4 : DiskIs (box3 w d s (.slice none 0 0)) base d mb n off set ah kp wn F G) (h1 : DiskIs w1 base d mb n off set' ah' kp wn' F G) (hk1 : Kept (box3 w d s (.slice none 0 0)) w1 (fun k => k = d)) (hv : ∀ s, V s = (F s).map fun b => ((G b).zs, (G b).syn)) (hB : ∀ k, OwnAll d mb F G k → B k)
    (hnm : nameB s = true) (hn : n < 1048576) (hVs : V s = none) (hb : base ≤ w.heap.size) :
    Calls Tryz.prog 163 #[.pointer (some ⟨w.heap.size, 0, none⟩), .pointer (some ⟨w.heap.size + 1, 0, none⟩), .pointer (some ⟨w.heap.size + 1 + 1, 0, none⟩)] w1 fun e w' => e = .returned (.tuple #[]) ∧ ∃ n' F' G', DiskIs w' base d mb n' off set' ah' kp wn' F' G' ∧ n' ≤ n + 1 ∧ (∀ t, setV V s (some ([], 0)) t = (F' t).map fun b => ((G' b).zs, (G' b).syn)) ∧ ∃ B', (∀ k, OwnAll d mb F' G' k → B' k) ∧ Step w w' B B' := by
  obtain ⟨hg, r3, r4, r5, hsl⟩ := box3_facts w d s (.slice none 0 0)
  obtain ⟨q3, q4, q5⟩ := boxes_stay hd4.row hk1
  refine (v_app1N base d mb n _ _ _ off set' ah' kp wn' V B s w1 F G h1 hv hB (nameB_size hnm) (by omega) q3 q4 q5 hVs (Nat.le_trans hb (Nat.le_trans hg.size hk1.size))).mono ?_
  rintro e w' ⟨rfl, n', F', G', B', hn', hd', hv', hB', hst⟩
  exact ⟨rfl, n', F', G', hd', hn', hv', B', hB', ((Step.grown B hg).trans ⟨hk1.mono (fun k _ hk => hB k (.inl hk)), fun k _ hk => hk⟩).trans hst⟩
set_option maxHeartbeats 4000000 in
theorem v_appendN (base d mb n : Nat) (ah kp wn : Int) (V : Cont) (B : Nat → Prop) (s : ByteArray) (w : World) (h : DV w base d mb n false false ah kp wn V B) (hnm : nameB s = true) (hn : n < 1048576) (hw : 0 ≤ wn ∧ wn ≤ 1000000000) (hVs : V s = none) (hb : base ≤ w.heap.size) :
    Calls Tryz.prog 134 #[.pointer (some ⟨d, 0, none⟩), .string s, .slice none 0 0] w fun e w' => e = .returned (.int .i64 0) ∧ ∃ n' B', n' ≤ n + 1 ∧ DV w' base d mb n' false false ah kp (wn + 1) (setV V s (some ([], 0))) B' ∧ Step w w' B B' := by
  obtain ⟨hg, _⟩ := box3_facts w d s (.slice none 0 0)
  obtain ⟨F, G, hd, hv, hB⟩ := id h
  have hd4 := hd.kept hg
  refine (v_appendByN base d mb n false ah kp wn V B s (fun c w' => c = 0 ∧ ∃ n' B', n' ≤ n + 1 ∧ DV w' base d mb n' false false ah kp (wn + 1) (setV V s (some ([], 0))) B' ∧ Step w w' B B') w h hnm hn hVs ?_).mono ?_
  · refine (d_writeGo46 base d mb n true false ah kp wn F G _ (fun w' => ∃ n' B', n' ≤ n + 1 ∧ DV w' base d mb n' false false ah kp (wn + 1) (setV V s (some ([], 0))) B' ∧ Step w w' B B') _ hd4 hw ?_).mono ?_
    · intro w1 h1 hk1
      refine (app_closN base d mb n false false false ah ah kp wn (wn + 1) V B s F G w w1 hd4 h1 hk1 hv hB hnm hn hVs hb).mono ?_
      rintro e w' ⟨rfl, n', F', G', hd', hn', hv', B', hB', hst⟩
      exact ⟨rfl, n', B', hn', ⟨F', G', hd', hv', hB'⟩, hst⟩
    · rintro e w' ⟨rfl, hP⟩
      exact ⟨0, rfl, rfl, hP⟩
  · rintro e w' ⟨c, rfl, rfl, hP⟩
    exact ⟨rfl, hP⟩
set_option maxHeartbeats 4000000 in
theorem v_appendArmedN (base d mb n : Nat) (ah kp wn : Int) (V : Cont) (B : Nat → Prop) (s : ByteArray) (w : World) (h : DV w base d mb n false true ah kp wn V B) (ha : 0 < ah ∧ ah ≤ 9223372036854775807) (hnm : nameB s = true) (hn : n < 1048576) (hw : 0 ≤ wn ∧ wn ≤ 1000000000) (hVs : V s = none) (hb : base ≤ w.heap.size) :
    Calls Tryz.prog 134 #[.pointer (some ⟨d, 0, none⟩), .string s, .slice none 0 0] w fun e w' => e = .returned (.int .i64 0) ∧ ∃ n' B', n' ≤ n + 1 ∧ DV w' base d mb n' false true (ah - 1) kp (wn + 1) (setV V s (some ([], 0))) B' ∧ Step w w' B B' := by
  obtain ⟨hg, _⟩ := box3_facts w d s (.slice none 0 0)
  obtain ⟨F, G, hd, hv, hB⟩ := id h
  have hd4 := hd.kept hg
  refine (v_appendByN base d mb n true ah kp wn V B s (fun c w' => c = 0 ∧ ∃ n' B', n' ≤ n + 1 ∧ DV w' base d mb n' false true (ah - 1) kp (wn + 1) (setV V s (some ([], 0))) B' ∧ Step w w' B B') w h hnm hn hVs ?_).mono ?_
  · refine (d_writeArmed46 base d mb n true false ah kp wn F G _ (fun w' => ∃ n' B', n' ≤ n + 1 ∧ DV w' base d mb n' false true (ah - 1) kp (wn + 1) (setV V s (some ([], 0))) B' ∧ Step w w' B B') _ hd4 hw ha ?_).mono ?_
    · intro w1 h1 hk1
      refine (app_closN base d mb n false true true ah (ah - 1) kp wn (wn + 1) V B s F G w w1 hd4 h1 hk1 hv hB hnm hn hVs hb).mono ?_
      rintro e w' ⟨rfl, n', F', G', hd', hn', hv', B', hB', hst⟩
      exact ⟨rfl, n', B', hn', ⟨F', G', hd', hv', hB'⟩, hst⟩
    · rintro e w' ⟨rfl, hP⟩
      exact ⟨0, rfl, rfl, hP⟩
  · rintro e w' ⟨c, rfl, rfl, hP⟩
    exact ⟨rfl, hP⟩
set_option maxHeartbeats 4000000 in
theorem v_appendCutN (base d mb n : Nat) (kp wn : Int) (V : Cont) (B : Nat → Prop) (s : ByteArray) (w : World) (h : DV w base d mb n false true 0 kp wn V B) (hk : -9223372036854775808 ≤ kp ∧ kp ≤ 9223372036854775807) (hnm : nameB s = true) (hn : n < 1048576) (hw : 0 ≤ wn ∧ wn ≤ 1000000000) (hVs : V s = none) (hb : base ≤ w.heap.size) :
    Calls Tryz.prog 134 #[.pointer (some ⟨d, 0, none⟩), .string s, .slice none 0 0] w fun e w' => e = .returned (.int .i64 60) ∧ ∃ n' B', n' ≤ n + 1 ∧ DV w' base d mb n' true false 0 0 (wn + 1) (fun t => (setV V s (some ([], 0)) t).map (cutV kp)) B' ∧ Step w w' B B' := by
  obtain ⟨hg, _⟩ := box3_facts w d s (.slice none 0 0)
  obtain ⟨F, G, hd, hv, hB⟩ := id h
  have hd4 := hd.kept hg
  refine (v_appendByN base d mb n true 0 kp wn V B s (fun c w' => c = 60 ∧ ∃ n' B', n' ≤ n + 1 ∧ DV w' base d mb n' true false 0 0 (wn + 1) (fun t => (setV V s (some ([], 0)) t).map (cutV kp)) B' ∧ Step w w' B B') w h hnm hn hVs ?_).mono ?_
  · refine (d_writeCut46 base d mb n false kp wn F G _ (fun w1 n' F' G' => n' ≤ n + 1 ∧ (∀ t, setV V s (some ([], 0)) t = (F' t).map fun b => ((G' b).zs, (G' b).syn)) ∧ ∃ B', (∀ k, OwnAll d mb F' G' k → B' k) ∧ Step w w1 B B') _ hd4 hw hk ?_).mono ?_
    · intro w1 h1 hk1
      exact app_closN base d mb n false true true 0 0 kp wn (wn + 1) V B s F G w w1 hd4 h1 hk1 hv hB hnm hn hVs hb
    · rintro e w' ⟨rfl, w1, n', F', G', ⟨hn', hv', B', hB', hst⟩, hd', hk'⟩
      obtain ⟨h1, h2⟩ := DV.cut (off := false) (set := true) (ah := 0) (kp := kp) (wn := wn) hd' hv' hB' hk'
      exact ⟨60, rfl, rfl, n', B', hn', h1, hst.trans h2⟩
  · rintro e w' ⟨c, rfl, rfl, hP⟩
    exact ⟨rfl, hP⟩
set_option maxHeartbeats 4000000 in
theorem x_appendN (base d mb n : Nat) (x : DSt) (B : Nat → Prop) (s : ByteArray) (w : World) (h : DS w base d mb n x B) (hok : x.ok) (hnm : nameB s = true) (hn : n < 1048576) (hVs : x.V s = none) (hb : base ≤ w.heap.size) :
    Calls Tryz.prog 134 #[.pointer (some ⟨d, 0, none⟩), .string s, .slice none 0 0] w (Leaves w base d mb n (x.append s []) B) := by
  obtain ⟨off, set, ah, kp, wn, V⟩ := x
  obtain ⟨hw, ha, hk⟩ := hok
  have hss := nameB_size hnm
  have e0 : oldV V s = ([], 0) := by unfold oldV; rw [show V s = none from hVs]; rfl
  unfold DSt.append
  cases off with
  | true =>
    refine (v_appendOff base d mb n set ah kp wn V B s none 0 0 w h (by omega)).mono ?_
    rintro e w' ⟨rfl, hg⟩
    exact leaves_same h hg
  | false =>
    rw [if_neg (by simp)]
    dsimp only
    rw [e0, List.append_nil]
    unfold DSt.wr
    cases set with
    | false =>
      refine (v_appendN base d mb n ah kp wn V B s w h hnm hn hw hVs hb).mono ?_
      rintro e w' ⟨rfl, n', B', hn', hd', hst⟩
      exact ⟨rfl, n', B', hn', hd', hst⟩
    | true =>
      rw [if_neg (by simp)]
      by_cases h0 : ah = 0
      · subst h0
        refine (v_appendCutN base d mb n kp wn V B s w h hk hnm hn hw hVs hb).mono ?_
        rintro e w' ⟨rfl, n', B', hn', hd', hst⟩
        exact ⟨rfl, n', B', hn', hd', hst⟩
      · rw [if_neg h0]
        have h1 := ha rfl
        refine (v_appendArmedN base d mb n ah kp wn V B s w h (by dsimp only at h1; omega) hnm hn hw hVs hb).mono ?_
        rintro e w' ⟨rfl, n', B', hn', hd', hst⟩
        exact ⟨rfl, n', B', hn', hd', hst⟩
end Go.Proofs.YtgpgkpciajajcaaGreatDoor

/- Package wal: Cut, of nothing and of too much. (Printed by mk_cutN.py.) -/
namespace Go.Proofs.YtgpgkpciajajcaaGreatDoor
open Go.RowKit Go.Maps Go.Sort
set_option linter.unusedVariables false
set_option maxRecDepth 20000

theorem w_frames0 (p : Nat) (ka : Option Addr) (kc : Nat) (w : World) (P : Ending → World → Prop) (hend : Calls Tryz.prog 97 #[.func (.func 106) #[] #[.pointer (some ⟨w.heap.size, 0, none⟩), .pointer (some ⟨w.heap.size + 1, 0, none⟩)]] ((w.alloc (.cells #[.pointer (some ⟨p, 0, none⟩)] 65)).alloc (.cells #[.slice none 0 0] 37)) P) (hP : ∀ e w1, P e w1 → ∃ c, e = .returned (.int .i64 c)) :
    Calls Tryz.prog 76 #[.pointer (some ⟨p, 0, none⟩), .slice ka 0 kc] w P := by
  have HP : Hid (∀ e w1, P e w1 → ∃ c, e = .returned (.int .i64 c)) := hP
  have hmf : ∀ (fn : Fn) (first cap : Array Value) (w : World), (Instr.makeFunc fn first cap).run Tryz.prog w = .ok (.func fn first cap) w := fun _ _ _ _ => rfl
  obtain ⟨W2, eW2⟩ : ∃ W2, W2 = (w.alloc (.cells #[.pointer (some ⟨p, 0, none⟩)] 65)).alloc (.cells #[.slice none 0 0] 37) := ⟨_, rfl⟩
  rw [← eW2] at hend
  have HE : Hid (Calls Tryz.prog 97 #[.func (.func 106) #[] #[.pointer (some ⟨w.heap.size, 0, none⟩), .pointer (some ⟨w.heap.size + 1, 0, none⟩)]] W2 P) := hend
  have EW2 : Hid (W2 = (w.alloc (.cells #[.pointer (some ⟨p, 0, none⟩)] 65)).alloc (.cells #[.slice none 0 0] 37)) := eW2
  clear hend hP eW2
  go_enter Tryz.func76, Tryz.ntmps76
  go_wp2_with fail
  rw [← EW2.out]
  go_loopw [12] (fun t12 wr => t12 = .int .i64 0 ∧ wr = W2) (fun _ _ => 0)
  case atStart => exact ⟨rfl, rfl⟩
  case round =>
    obtain ⟨rfl, rfl⟩ := hrel
    go_wp2_with fail
    refine HE.out.mono ?_
    intro e w9 hp9
    obtain ⟨c9, rfl⟩ := HP.out e w9 hp9
    have HP9 : Hid (P (.returned (.int .i64 c9)) w9) := hp9
    clear hp9 HE
    go_wp2
    exact HP9.out
set_option maxHeartbeats 4000000 in
theorem w_caughtP57 (caps : Array Value) (x : Int) (P : World → Prop) (w : World)
    (hcl : Calls Tryz.prog 106 caps (w.alloc (.cells #[.int .i64 0] 31)) fun e w' => e = .panicked (thrown x) ∧ P w' ∧ w'.cell? ⟨w.heap.size, 0, none⟩ = some (.int .i64 0) ∧ w'.frozen? ⟨w.heap.size, 0, none⟩ = false) :
    Calls Tryz.prog 97 #[.func (.func 106) #[] caps] w fun e w' => e = .returned (.int .i64 x) ∧ ∃ w1, P w1 ∧ w' = w1.setCell ⟨w.heap.size, 0, none⟩ (.int .i64 x) := by
  have hmf : ∀ (fn : Fn) (first cap : Array Value) (w : World), (Instr.makeFunc fn first cap).run Tryz.prog w = .ok (.func fn first cap) w := fun _ _ _ _ => rfl
  go_enter_defers Tryz.func97, Tryz.ntmps97
  go_wp2_with fail
  refine hcl.mono ?_
  rintro e w1 ⟨rfl, hp, hc, hz⟩
  have HP : Hid (P w1) := hp
  clear hp hcl
  unfold thrown
  go_wp2
  refine leaves_cons (f := 132) (args := #[.pointer (some ⟨w.heap.size, 0, none⟩)]) (by simp) (by simp [go_sem]) ?_
  refine (w_catch w.heap.size x [] _ hc hz).mono ?_
  rintro e u' w'' ⟨rfl, rfl, rfl⟩
  have hcs : (w1.setCell ⟨w.heap.size, 0, none⟩ (.int .i64 x)).cell? ⟨w.heap.size, 0, none⟩ = some (.int .i64 x) := World.cell?_setCell_same' w1 _ _ (by rw [hc]; rfl)
  simp [Go.Leaves, settle, results, Tryz.results97, go_sem, hcs]
  exact ⟨w1, HP.out, rfl⟩
end Go.Proofs.YtgpgkpciajajcaaGreatDoor

/- Package wal: put, on a disk that may be armed. (Printed by mk_putA.py.) -/
namespace Go.Proofs.YtgpgkpciajajcaaGreatDoor
open Go.RowKit Go.Maps Go.Sort
set_option linter.unusedVariables false
set_option maxRecDepth 20000

/-- Append's contract, whatever is handed in. -/
def AppsTo (w : World) (base d mb n : Nat) (x : DSt) (B : Nat → Prop) (s : ByteArray) (fv : Value) (zs : List Int) : Prop := ∀ w1, w.grownBy w1 none → Calls Tryz.prog 134 #[.pointer (some ⟨d, 0, none⟩), .string s, fv] w1 (Leaves w1 base d mb n (x.append s zs) B)
set_option maxHeartbeats 8000000 in
theorem w_putG (base d mb n : Nat) (x : DSt) (p : Nat) (dir cp name : ByteArray) (segs : List Nat) (op : Nat) (A B : Nat → Prop) (fv : Value) (zs : List Int) (w : World) (hdir : dirB dir = true) (h : LogAt w base d mb n x p dir cp segs op A B) (hap : AppsTo w base d mb n x B (newN dir) fv zs) (hok : x.ok) (hn : n < 1048576) (hname : nameB name = true) (x1 : DSt) (ex1 : x.append (newN dir) zs = (0, x1)) (hok1 : x1.ok) (x2 : DSt) (ex2 : x1.sync (newN dir) = (0, x2)) (hok2 : x2.ok) (x3 : DSt) (ex3 : x2.rename (newN dir) name = (0, x3)) :
    Calls Tryz.prog 140 #[.pointer (some ⟨p, 0, none⟩), .string name, fv] w fun e w' => e = .returned (.tuple #[]) ∧ ∃ n' B', n' ≤ n + 2 ∧ LogAt w' base d mb n' x3 p dir cp segs op A B' ∧ Step2 w w' A B A B' := by
  have hds : dir.size ≤ 32 := by simp only [dirB, Bool.and_eq_true, decide_eq_true_eq] at hdir; exact hdir.2
  have hnm := new_name hdir
  have HD0 := fun w => w_done0 w
  have HDP := fun w => w_doneP 60 (by decide) w
  have A1 : Hid (∀ w1, w.grownBy w1 none → Calls Tryz.prog 134 #[.pointer (some ⟨d, 0, none⟩), .string (newN dir), fv] w1 fun e w' => e = .returned (.int .i64 0) ∧ ∃ n' B', n' ≤ n + 1 ∧ LogAt w' base d mb n' x1 p dir cp segs op A B' ∧ Step2 w w' A B A B') := fun w1 hg => by
    have h1 := h.grown hg
    refine (hap w1 hg).mono ?_
    rintro e w' ⟨rfl, n', B', hn', hd', hst⟩
    rw [ex1] at hd' ⊢
    obtain ⟨B'', h2, h3⟩ := h1.write hd' hst
    exact ⟨rfl, n', B'', hn', h2, (Step2.grown A B hg).trans h3⟩
  have A2 : Hid (∀ n1 B1 w1, LogAt w1 base d mb n1 x1 p dir cp segs op A B1 → Calls Tryz.prog 104 #[.pointer (some ⟨d, 0, none⟩), .string (newN dir)] w1 fun e w' => e = .returned (.int .i64 0) ∧ ∃ n' B', n' ≤ n1 ∧ LogAt w' base d mb n' x2 p dir cp segs op A B' ∧ Step2 w1 w' A B1 A B') := fun n1 B1 w1 h1 => by
    refine (x_syncN base d mb n1 x1 B1 (newN dir) w1 h1.disk hok1 hnm).mono ?_
    rintro e w' ⟨rfl, n', B', hn', hd', hst⟩
    rw [ex2] at hd' ⊢
    obtain ⟨B'', h2, h3⟩ := h1.write hd' hst
    exact ⟨rfl, n', B'', hn', h2, h3⟩
  have A3 : Hid (∀ n1 B1 w1, n1 ≤ 1048576 → LogAt w1 base d mb n1 x2 p dir cp segs op A B1 → Calls Tryz.prog 166 #[.pointer (some ⟨d, 0, none⟩), .string (newN dir), .string name] w1 fun e w' => e = .returned (.int .i64 0) ∧ ∃ n' B', n' ≤ n1 + 1 ∧ LogAt w' base d mb n' x3 p dir cp segs op A B' ∧ Step2 w1 w' A B1 A B') := fun n1 B1 w1 hn1 h1 => by
    refine (x_rename base d mb n1 x2 B1 (newN dir) name w1 h1.disk hok2 hnm hname hn1).mono ?_
    rintro e w' ⟨rfl, n', B', hn', hd', hst⟩
    rw [ex3] at hd' ⊢
    obtain ⟨B'', h2, h3⟩ := h1.write hd' hst
    exact ⟨rfl, n', B'', hn', h2, h3⟩
  have HDR : Hid (∀ w1 n1 x' B1, LogAt w1 base d mb n1 x' p dir cp segs op A B1 → Calls Tryz.prog 150 #[.pointer (some ⟨p, 0, none⟩)] w1 fun e w' => e = .returned (.string (newN dir)) ∧ w1 = w') := fun w1 n1 x' B1 h1 => by
    obtain ⟨a1, c1, hW, _⟩ := h1.wal
    exact w_draft p d dir cp _ _ w1 (by omega) hW
  have HCL : Hid (∀ w1 n1 x' B1, LogAt w1 base d mb n1 x' p dir cp segs op A B1 → w1.cell? ⟨p, 0, none⟩ = some (.pointer (some ⟨d, 0, none⟩))) := fun w1 n1 x' B1 h1 => by
    obtain ⟨a1, c1, hW, _⟩ := h1.wal
    exact hW.cells.1
  have HGD : ∀ W : World, W.grownBy W.drew none := fun W => gb_drew (World.grownBy.refl _ _)
  have HL : Hid (LogAt w base d mb n x p dir cp segs op A B) := h
  have c0 := HCL.out _ _ _ _ h
  have HLd : Hid (LogAt w.drew base d mb n x p dir cp segs op A B) := h.grown (HGD w)
  clear h hap
  go_enter Tryz.func140, Tryz.ntmps140
  go_wp2_with fail
  go_region_held3 (fun W => W.cell? ⟨p, 0, none⟩ = some (.pointer (some ⟨d, 0, none⟩))) (go_keep) (first
    | (go_at_call 150; refine (HDR.out _ _ _ _ HLd.out).mono ?_; rintro e w1 ⟨rfl, rfl⟩)
    | (go_at_call 134; refine (A1.out _ (HGD w)).mono ?_; rintro e w2 ⟨rfl, n1, B1, hn1, hL1, hS1⟩; have HL1 : Hid (LogAt w2 base d mb n1 x1 p dir cp segs op A B1) := hL1; have HS1 : Hid (Step2 w w2 A B A B1) := hS1; have c01 := HCL.out _ _ _ _ hL1; clear hL1 hS1)
    | (go_at_call 103; refine (HD0 _).mono ?_; rintro e w3 ⟨rfl, rfl⟩))
  have HL1d : Hid (LogAt w2.drew base d mb n1 x1 p dir cp segs op A B1) := HL1.out.grown (HGD w2)
  go_wp2_with fail
  go_region_held3 (fun W => W.cell? ⟨p, 0, none⟩ = some (.pointer (some ⟨d, 0, none⟩))) (go_keep) (first
    | (go_at_call 150; refine (HDR.out _ _ _ _ HL1d.out).mono ?_; rintro e w1 ⟨rfl, rfl⟩)
    | (go_at_call 104; refine (A2.out _ _ _ HL1d.out).mono ?_; rintro e w4 ⟨rfl, n2, B2, hn2, hL2, hS2⟩; have HL2 : Hid (LogAt w4 base d mb n2 x2 p dir cp segs op A B2) := hL2; have HS2 : Hid (Step2 w w4 A B A B2) := (HS1.out.trans (Step2.grown A B1 (HGD w2))).trans hS2; have c02 := HCL.out _ _ _ _ hL2; clear hL2 hS2)
    | (go_at_call 103; refine (HD0 _).mono ?_; rintro e w3 ⟨rfl, rfl⟩))
  have HL2d : Hid (LogAt w4.drew base d mb n2 x2 p dir cp segs op A B2) := HL2.out.grown (HGD w4)
  go_wp2_with fail
  go_region_held3 (fun W => W.cell? ⟨p, 0, none⟩ = some (.pointer (some ⟨d, 0, none⟩))) (go_keep) (first
    | (go_at_call 150; refine (HDR.out _ _ _ _ HL2d.out).mono ?_; rintro e w1 ⟨rfl, rfl⟩)
    | (go_at_call 166; refine (A3.out _ _ _ (by omega) HL2d.out).mono ?_; rintro e w6 ⟨rfl, n3, B3, hn3, hL3, hS3⟩; have HL3 : Hid (LogAt w6 base d mb n3 x3 p dir cp segs op A B3) := hL3; have HS3 : Hid (Step2 w w6 A B A B3) := (HS2.out.trans (Step2.grown A B2 (HGD w4))).trans hS3; have c03 := HCL.out _ _ _ _ hL3; clear hL3 hS3)
    | (go_at_call 103; refine (HD0 _).mono ?_; rintro e w3 ⟨rfl, rfl⟩))
  go_wp2
  go_end0
  exact ⟨rfl, n3, B3, by omega, HL3.out, HS3.out⟩
set_option maxHeartbeats 8000000 in
theorem w_putP1 (base d mb n : Nat) (x : DSt) (p : Nat) (dir cp name : ByteArray) (segs : List Nat) (op : Nat) (A B : Nat → Prop) (fv : Value) (zs : List Int) (w : World) (hdir : dirB dir = true) (h : LogAt w base d mb n x p dir cp segs op A B) (hap : AppsTo w base d mb n x B (newN dir) fv zs) (hok : x.ok) (hn : n < 1048576) (hname : nameB name = true) (y : DSt) (ey : x.append (newN dir) zs = (60, y)) :
    Calls Tryz.prog 140 #[.pointer (some ⟨p, 0, none⟩), .string name, fv] w fun e w' => e = .panicked (thrown 60) ∧ ∃ n' B', n' ≤ n + 2 ∧ LogAt w' base d mb n' y p dir cp segs op A B' ∧ Step2 w w' A B A B' := by
  have hds : dir.size ≤ 32 := by simp only [dirB, Bool.and_eq_true, decide_eq_true_eq] at hdir; exact hdir.2
  have hnm := new_name hdir
  have HD0 := fun w => w_done0 w
  have HDP := fun w => w_doneP 60 (by decide) w
  have A1 : Hid (∀ w1, w.grownBy w1 none → Calls Tryz.prog 134 #[.pointer (some ⟨d, 0, none⟩), .string (newN dir), fv] w1 fun e w' => e = .returned (.int .i64 60) ∧ ∃ n' B', n' ≤ n + 1 ∧ LogAt w' base d mb n' y p dir cp segs op A B' ∧ Step2 w w' A B A B') := fun w1 hg => by
    have h1 := h.grown hg
    refine (hap w1 hg).mono ?_
    rintro e w' ⟨rfl, n', B', hn', hd', hst⟩
    rw [ey] at hd' ⊢
    obtain ⟨B'', h2, h3⟩ := h1.write hd' hst
    exact ⟨rfl, n', B'', hn', h2, (Step2.grown A B hg).trans h3⟩
  have HDR : Hid (∀ w1 n1 x' B1, LogAt w1 base d mb n1 x' p dir cp segs op A B1 → Calls Tryz.prog 150 #[.pointer (some ⟨p, 0, none⟩)] w1 fun e w' => e = .returned (.string (newN dir)) ∧ w1 = w') := fun w1 n1 x' B1 h1 => by
    obtain ⟨a1, c1, hW, _⟩ := h1.wal
    exact w_draft p d dir cp _ _ w1 (by omega) hW
  have HCL : Hid (∀ w1 n1 x' B1, LogAt w1 base d mb n1 x' p dir cp segs op A B1 → w1.cell? ⟨p, 0, none⟩ = some (.pointer (some ⟨d, 0, none⟩))) := fun w1 n1 x' B1 h1 => by
    obtain ⟨a1, c1, hW, _⟩ := h1.wal
    exact hW.cells.1
  have HGD : ∀ W : World, W.grownBy W.drew none := fun W => gb_drew (World.grownBy.refl _ _)
  have HL : Hid (LogAt w base d mb n x p dir cp segs op A B) := h
  have c0 := HCL.out _ _ _ _ h
  have HLd : Hid (LogAt w.drew base d mb n x p dir cp segs op A B) := h.grown (HGD w)
  clear h hap
  go_enter Tryz.func140, Tryz.ntmps140
  go_wp2_with fail
  refine wp_region_held_drew (S := fun W => W.cell? ⟨p, 0, none⟩ = some (.pointer (some ⟨d, 0, none⟩))) (by kernel_rfl) (by go_keep) (fun hHeld => ?_)
  refine wpAnyH_take (i := 0) (v := .pointer (some ⟨p, 0, none⟩)) rfl (by kernel_rfl) (by kernel_rfl) (by kernel_rfl) (fun _ _ _ h => h) (Or.inl ⟨by rfl, fun w hSw => ?_⟩) (by assumption) ?_
  · go_simp
  refine wpAnyH_take (i := 1) (v := .pointer (some ⟨p, 0, none⟩)) rfl (by kernel_rfl) (by kernel_rfl) (by kernel_rfl) (fun _ _ _ h => h) (Or.inl ⟨by rfl, fun w hSw => ?_⟩) (by assumption) ?_
  · go_simp
  refine wpAnyH_take (i := 2) (v := .pointer (some ⟨p, 0, none⟩)) rfl (by kernel_rfl) (by kernel_rfl) (by kernel_rfl) (fun _ _ _ h => h) (Or.inl ⟨by rfl, fun w hSw => ?_⟩) (by assumption) ?_
  · go_simp
  refine wpAnyH_take (i := 3) (v := .pointer (some ⟨d, 0, none⟩)) rfl (by kernel_rfl) (by kernel_rfl) (by kernel_rfl) (fun _ _ _ h => h) (Or.inl ⟨by rfl, fun w hSw => ?_⟩) (by assumption) ?_
  · go_simp
  refine wpAnyH_take (i := 4) (v := .pointer (some ⟨p, 0, none⟩)) rfl (by kernel_rfl) (by kernel_rfl) (by kernel_rfl) (fun _ _ _ h => h) (Or.inl ⟨by rfl, fun w hSw => ?_⟩) (by assumption) ?_
  · go_simp
  refine wpAnyH_take (i := 6) (v := fv) rfl (by kernel_rfl) (by kernel_rfl) (by kernel_rfl) (fun _ _ _ h => h) (Or.inl ⟨by rfl, fun w hSw => ?_⟩) (by assumption) ?_
  · go_simp
  refine wpAnyH_ready (rs := [5]) (by kernel_rfl) (by simp) (AllReadyH.cons (i := 5) rfl (fun K hK => ?_) AllReadyH.nil)
  go_simp
  refine (HDR.out _ _ _ _ HLd.out).mono ?_
  rintro e w1 ⟨rfl, rfl⟩
  refine hK.out _ _ (by go_keep) (fun hHeld => ?_)
  clear hK K
  refine wpAnyH_ready (rs := [7]) (by kernel_rfl) (by simp) (AllReadyH.cons (i := 7) rfl (fun K hK => ?_) AllReadyH.nil)
  go_simp
  refine (A1.out _ (HGD w)).mono ?_
  rintro e w2 ⟨rfl, n1, B1, hn1, hL1, hS1⟩
  have HL1 : Hid (LogAt w2 base d mb n1 y p dir cp segs op A B1) := hL1
  have HS1 : Hid (Step2 w w2 A B A B1) := hS1
  have c01 := HCL.out _ _ _ _ hL1
  clear hL1 hS1
  refine hK.out _ _ (by go_keep) (fun hHeld => ?_)
  clear hK K
  refine wpAnyH_ready (rs := [8]) (by kernel_rfl) (by simp) (AllReadyH.cons (i := 8) rfl (fun K hK => ?_) AllReadyH.nil)
  go_simp
  refine (HDP _).mono ?_
  rintro e w3 ⟨rfl, rfl⟩
  exact ⟨rfl, rfl, n1, B1, by omega, HL1.out, HS1.out⟩
set_option maxHeartbeats 8000000 in
theorem w_putP2 (base d mb n : Nat) (x : DSt) (p : Nat) (dir cp name : ByteArray) (segs : List Nat) (op : Nat) (A B : Nat → Prop) (fv : Value) (zs : List Int) (w : World) (hdir : dirB dir = true) (h : LogAt w base d mb n x p dir cp segs op A B) (hap : AppsTo w base d mb n x B (newN dir) fv zs) (hok : x.ok) (hn : n < 1048576) (hname : nameB name = true) (x1 : DSt) (ex1 : x.append (newN dir) zs = (0, x1)) (hok1 : x1.ok) (y : DSt) (ey : x1.sync (newN dir) = (60, y)) :
    Calls Tryz.prog 140 #[.pointer (some ⟨p, 0, none⟩), .string name, fv] w fun e w' => e = .panicked (thrown 60) ∧ ∃ n' B', n' ≤ n + 2 ∧ LogAt w' base d mb n' y p dir cp segs op A B' ∧ Step2 w w' A B A B' := by
  have hds : dir.size ≤ 32 := by simp only [dirB, Bool.and_eq_true, decide_eq_true_eq] at hdir; exact hdir.2
  have hnm := new_name hdir
  have HD0 := fun w => w_done0 w
  have HDP := fun w => w_doneP 60 (by decide) w
  have A1 : Hid (∀ w1, w.grownBy w1 none → Calls Tryz.prog 134 #[.pointer (some ⟨d, 0, none⟩), .string (newN dir), fv] w1 fun e w' => e = .returned (.int .i64 0) ∧ ∃ n' B', n' ≤ n + 1 ∧ LogAt w' base d mb n' x1 p dir cp segs op A B' ∧ Step2 w w' A B A B') := fun w1 hg => by
    have h1 := h.grown hg
    refine (hap w1 hg).mono ?_
    rintro e w' ⟨rfl, n', B', hn', hd', hst⟩
    rw [ex1] at hd' ⊢
    obtain ⟨B'', h2, h3⟩ := h1.write hd' hst
    exact ⟨rfl, n', B'', hn', h2, (Step2.grown A B hg).trans h3⟩
  have A2 : Hid (∀ n1 B1 w1, LogAt w1 base d mb n1 x1 p dir cp segs op A B1 → Calls Tryz.prog 104 #[.pointer (some ⟨d, 0, none⟩), .string (newN dir)] w1 fun e w' => e = .returned (.int .i64 60) ∧ ∃ n' B', n' ≤ n1 ∧ LogAt w' base d mb n' y p dir cp segs op A B' ∧ Step2 w1 w' A B1 A B') := fun n1 B1 w1 h1 => by
    refine (x_syncN base d mb n1 x1 B1 (newN dir) w1 h1.disk hok1 hnm).mono ?_
    rintro e w' ⟨rfl, n', B', hn', hd', hst⟩
    rw [ey] at hd' ⊢
    obtain ⟨B'', h2, h3⟩ := h1.write hd' hst
    exact ⟨rfl, n', B'', hn', h2, h3⟩
  have HDR : Hid (∀ w1 n1 x' B1, LogAt w1 base d mb n1 x' p dir cp segs op A B1 → Calls Tryz.prog 150 #[.pointer (some ⟨p, 0, none⟩)] w1 fun e w' => e = .returned (.string (newN dir)) ∧ w1 = w') := fun w1 n1 x' B1 h1 => by
    obtain ⟨a1, c1, hW, _⟩ := h1.wal
    exact w_draft p d dir cp _ _ w1 (by omega) hW
  have HCL : Hid (∀ w1 n1 x' B1, LogAt w1 base d mb n1 x' p dir cp segs op A B1 → w1.cell? ⟨p, 0, none⟩ = some (.pointer (some ⟨d, 0, none⟩))) := fun w1 n1 x' B1 h1 => by
    obtain ⟨a1, c1, hW, _⟩ := h1.wal
    exact hW.cells.1
  have HGD : ∀ W : World, W.grownBy W.drew none := fun W => gb_drew (World.grownBy.refl _ _)
  have HL : Hid (LogAt w base d mb n x p dir cp segs op A B) := h
  have c0 := HCL.out _ _ _ _ h
  have HLd : Hid (LogAt w.drew base d mb n x p dir cp segs op A B) := h.grown (HGD w)
  clear h hap
  go_enter Tryz.func140, Tryz.ntmps140
  go_wp2_with fail
  go_region_held3 (fun W => W.cell? ⟨p, 0, none⟩ = some (.pointer (some ⟨d, 0, none⟩))) (go_keep) (first
    | (go_at_call 150; refine (HDR.out _ _ _ _ HLd.out).mono ?_; rintro e w1 ⟨rfl, rfl⟩)
    | (go_at_call 134; refine (A1.out _ (HGD w)).mono ?_; rintro e w2 ⟨rfl, n1, B1, hn1, hL1, hS1⟩; have HL1 : Hid (LogAt w2 base d mb n1 x1 p dir cp segs op A B1) := hL1; have HS1 : Hid (Step2 w w2 A B A B1) := hS1; have c01 := HCL.out _ _ _ _ hL1; clear hL1 hS1)
    | (go_at_call 103; refine (HD0 _).mono ?_; rintro e w3 ⟨rfl, rfl⟩))
  have HL1d : Hid (LogAt w2.drew base d mb n1 x1 p dir cp segs op A B1) := HL1.out.grown (HGD w2)
  go_wp2_with fail
  refine wp_region_held_drew (S := fun W => W.cell? ⟨p, 0, none⟩ = some (.pointer (some ⟨d, 0, none⟩))) (by kernel_rfl) (by go_keep) (fun hHeld => ?_)
  refine wpAnyH_take (i := 0) (v := .pointer (some ⟨p, 0, none⟩)) rfl (by kernel_rfl) (by kernel_rfl) (by kernel_rfl) (fun _ _ _ h => h) (Or.inl ⟨by rfl, fun w hSw => ?_⟩) (by assumption) ?_
  · go_simp
  refine wpAnyH_take (i := 1) (v := .pointer (some ⟨p, 0, none⟩)) rfl (by kernel_rfl) (by kernel_rfl) (by kernel_rfl) (fun _ _ _ h => h) (Or.inl ⟨by rfl, fun w hSw => ?_⟩) (by assumption) ?_
  · go_simp
  refine wpAnyH_take (i := 2) (v := .pointer (some ⟨p, 0, none⟩)) rfl (by kernel_rfl) (by kernel_rfl) (by kernel_rfl) (fun _ _ _ h => h) (Or.inl ⟨by rfl, fun w hSw => ?_⟩) (by assumption) ?_
  · go_simp
  refine wpAnyH_take (i := 3) (v := .pointer (some ⟨d, 0, none⟩)) rfl (by kernel_rfl) (by kernel_rfl) (by kernel_rfl) (fun _ _ _ h => h) (Or.inl ⟨by rfl, fun w hSw => ?_⟩) (by assumption) ?_
  · go_simp
  refine wpAnyH_take (i := 4) (v := .pointer (some ⟨p, 0, none⟩)) rfl (by kernel_rfl) (by kernel_rfl) (by kernel_rfl) (fun _ _ _ h => h) (Or.inl ⟨by rfl, fun w hSw => ?_⟩) (by assumption) ?_
  · go_simp
  refine wpAnyH_ready (rs := [5]) (by kernel_rfl) (by simp) (AllReadyH.cons (i := 5) rfl (fun K hK => ?_) AllReadyH.nil)
  go_simp
  refine (HDR.out _ _ _ _ HL1d.out).mono ?_
  rintro e w1 ⟨rfl, rfl⟩
  refine hK.out _ _ (by go_keep) (fun hHeld => ?_)
  clear hK K
  refine wpAnyH_ready (rs := [6]) (by kernel_rfl) (by simp) (AllReadyH.cons (i := 6) rfl (fun K hK => ?_) AllReadyH.nil)
  go_simp
  refine (A2.out _ _ _ HL1d.out).mono ?_
  rintro e w4 ⟨rfl, n2, B2, hn2, hL2, hS2⟩
  have HL2 : Hid (LogAt w4 base d mb n2 y p dir cp segs op A B2) := hL2
  have HS2 : Hid (Step2 w w4 A B A B2) := (HS1.out.trans (Step2.grown A B1 (HGD w2))).trans hS2
  have c02 := HCL.out _ _ _ _ hL2
  clear hL2 hS2
  refine hK.out _ _ (by go_keep) (fun hHeld => ?_)
  clear hK K
  refine wpAnyH_ready (rs := [7]) (by kernel_rfl) (by simp) (AllReadyH.cons (i := 7) rfl (fun K hK => ?_) AllReadyH.nil)
  go_simp
  refine (HDP _).mono ?_
  rintro e w3 ⟨rfl, rfl⟩
  exact ⟨rfl, rfl, n2, B2, by omega, HL2.out, HS2.out⟩
set_option maxHeartbeats 8000000 in
theorem w_putP3 (base d mb n : Nat) (x : DSt) (p : Nat) (dir cp name : ByteArray) (segs : List Nat) (op : Nat) (A B : Nat → Prop) (fv : Value) (zs : List Int) (w : World) (hdir : dirB dir = true) (h : LogAt w base d mb n x p dir cp segs op A B) (hap : AppsTo w base d mb n x B (newN dir) fv zs) (hok : x.ok) (hn : n < 1048576) (hname : nameB name = true) (x1 : DSt) (ex1 : x.append (newN dir) zs = (0, x1)) (hok1 : x1.ok) (x2 : DSt) (ex2 : x1.sync (newN dir) = (0, x2)) (hok2 : x2.ok) (y : DSt) (ey : x2.rename (newN dir) name = (60, y)) :
    Calls Tryz.prog 140 #[.pointer (some ⟨p, 0, none⟩), .string name, fv] w fun e w' => e = .panicked (thrown 60) ∧ ∃ n' B', n' ≤ n + 2 ∧ LogAt w' base d mb n' y p dir cp segs op A B' ∧ Step2 w w' A B A B' := by
  have hds : dir.size ≤ 32 := by simp only [dirB, Bool.and_eq_true, decide_eq_true_eq] at hdir; exact hdir.2
  have hnm := new_name hdir
  have HD0 := fun w => w_done0 w
  have HDP := fun w => w_doneP 60 (by decide) w
  have A1 : Hid (∀ w1, w.grownBy w1 none → Calls Tryz.prog 134 #[.pointer (some ⟨d, 0, none⟩), .string (newN dir), fv] w1 fun e w' => e = .returned (.int .i64 0) ∧ ∃ n' B', n' ≤ n + 1 ∧ LogAt w' base d mb n' x1 p dir cp segs op A B' ∧ Step2 w w' A B A B') := fun w1 hg => by
    have h1 := h.grown hg
    refine (hap w1 hg).mono ?_
    rintro e w' ⟨rfl, n', B', hn', hd', hst⟩
    rw [ex1] at hd' ⊢
    obtain ⟨B'', h2, h3⟩ := h1.write hd' hst
    exact ⟨rfl, n', B'', hn', h2, (Step2.grown A B hg).trans h3⟩
  have A2 : Hid (∀ n1 B1 w1, LogAt w1 base d mb n1 x1 p dir cp segs op A B1 → Calls Tryz.prog 104 #[.pointer (some ⟨d, 0, none⟩), .string (newN dir)] w1 fun e w' => e = .returned (.int .i64 0) ∧ ∃ n' B', n' ≤ n1 ∧ LogAt w' base d mb n' x2 p dir cp segs op A B' ∧ Step2 w1 w' A B1 A B') := fun n1 B1 w1 h1 => by
    refine (x_syncN base d mb n1 x1 B1 (newN dir) w1 h1.disk hok1 hnm).mono ?_
    rintro e w' ⟨rfl, n', B', hn', hd', hst⟩
    rw [ex2] at hd' ⊢
    obtain ⟨B'', h2, h3⟩ := h1.write hd' hst
    exact ⟨rfl, n', B'', hn', h2, h3⟩
  have A3 : Hid (∀ n1 B1 w1, n1 ≤ 1048576 → LogAt w1 base d mb n1 x2 p dir cp segs op A B1 → Calls Tryz.prog 166 #[.pointer (some ⟨d, 0, none⟩), .string (newN dir), .string name] w1 fun e w' => e = .returned (.int .i64 60) ∧ ∃ n' B', n' ≤ n1 + 1 ∧ LogAt w' base d mb n' y p dir cp segs op A B' ∧ Step2 w1 w' A B1 A B') := fun n1 B1 w1 hn1 h1 => by
    refine (x_rename base d mb n1 x2 B1 (newN dir) name w1 h1.disk hok2 hnm hname hn1).mono ?_
    rintro e w' ⟨rfl, n', B', hn', hd', hst⟩
    rw [ey] at hd' ⊢
    obtain ⟨B'', h2, h3⟩ := h1.write hd' hst
    exact ⟨rfl, n', B'', hn', h2, h3⟩
  have HDR : Hid (∀ w1 n1 x' B1, LogAt w1 base d mb n1 x' p dir cp segs op A B1 → Calls Tryz.prog 150 #[.pointer (some ⟨p, 0, none⟩)] w1 fun e w' => e = .returned (.string (newN dir)) ∧ w1 = w') := fun w1 n1 x' B1 h1 => by
    obtain ⟨a1, c1, hW, _⟩ := h1.wal
    exact w_draft p d dir cp _ _ w1 (by omega) hW
  have HCL : Hid (∀ w1 n1 x' B1, LogAt w1 base d mb n1 x' p dir cp segs op A B1 → w1.cell? ⟨p, 0, none⟩ = some (.pointer (some ⟨d, 0, none⟩))) := fun w1 n1 x' B1 h1 => by
    obtain ⟨a1, c1, hW, _⟩ := h1.wal
    exact hW.cells.1
  have HGD : ∀ W : World, W.grownBy W.drew none := fun W => gb_drew (World.grownBy.refl _ _)
  have HL : Hid (LogAt w base d mb n x p dir cp segs op A B) := h
  have c0 := HCL.out _ _ _ _ h
  have HLd : Hid (LogAt w.drew base d mb n x p dir cp segs op A B) := h.grown (HGD w)
  clear h hap
  go_enter Tryz.func140, Tryz.ntmps140
  go_wp2_with fail
  go_region_held3 (fun W => W.cell? ⟨p, 0, none⟩ = some (.pointer (some ⟨d, 0, none⟩))) (go_keep) (first
    | (go_at_call 150; refine (HDR.out _ _ _ _ HLd.out).mono ?_; rintro e w1 ⟨rfl, rfl⟩)
    | (go_at_call 134; refine (A1.out _ (HGD w)).mono ?_; rintro e w2 ⟨rfl, n1, B1, hn1, hL1, hS1⟩; have HL1 : Hid (LogAt w2 base d mb n1 x1 p dir cp segs op A B1) := hL1; have HS1 : Hid (Step2 w w2 A B A B1) := hS1; have c01 := HCL.out _ _ _ _ hL1; clear hL1 hS1)
    | (go_at_call 103; refine (HD0 _).mono ?_; rintro e w3 ⟨rfl, rfl⟩))
  have HL1d : Hid (LogAt w2.drew base d mb n1 x1 p dir cp segs op A B1) := HL1.out.grown (HGD w2)
  go_wp2_with fail
  go_region_held3 (fun W => W.cell? ⟨p, 0, none⟩ = some (.pointer (some ⟨d, 0, none⟩))) (go_keep) (first
    | (go_at_call 150; refine (HDR.out _ _ _ _ HL1d.out).mono ?_; rintro e w1 ⟨rfl, rfl⟩)
    | (go_at_call 104; refine (A2.out _ _ _ HL1d.out).mono ?_; rintro e w4 ⟨rfl, n2, B2, hn2, hL2, hS2⟩; have HL2 : Hid (LogAt w4 base d mb n2 x2 p dir cp segs op A B2) := hL2; have HS2 : Hid (Step2 w w4 A B A B2) := (HS1.out.trans (Step2.grown A B1 (HGD w2))).trans hS2; have c02 := HCL.out _ _ _ _ hL2; clear hL2 hS2)
    | (go_at_call 103; refine (HD0 _).mono ?_; rintro e w3 ⟨rfl, rfl⟩))
  have HL2d : Hid (LogAt w4.drew base d mb n2 x2 p dir cp segs op A B2) := HL2.out.grown (HGD w4)
  go_wp2_with fail
  refine wp_region_held_drew (S := fun W => W.cell? ⟨p, 0, none⟩ = some (.pointer (some ⟨d, 0, none⟩))) (by kernel_rfl) (by go_keep) (fun hHeld => ?_)
  refine wpAnyH_take (i := 0) (v := .pointer (some ⟨p, 0, none⟩)) rfl (by kernel_rfl) (by kernel_rfl) (by kernel_rfl) (fun _ _ _ h => h) (Or.inl ⟨by rfl, fun w hSw => ?_⟩) (by assumption) ?_
  · go_simp
  refine wpAnyH_take (i := 1) (v := .pointer (some ⟨p, 0, none⟩)) rfl (by kernel_rfl) (by kernel_rfl) (by kernel_rfl) (fun _ _ _ h => h) (Or.inl ⟨by rfl, fun w hSw => ?_⟩) (by assumption) ?_
  · go_simp
  refine wpAnyH_take (i := 2) (v := .pointer (some ⟨p, 0, none⟩)) rfl (by kernel_rfl) (by kernel_rfl) (by kernel_rfl) (fun _ _ _ h => h) (Or.inl ⟨by rfl, fun w hSw => ?_⟩) (by assumption) ?_
  · go_simp
  refine wpAnyH_take (i := 3) (v := .pointer (some ⟨d, 0, none⟩)) rfl (by kernel_rfl) (by kernel_rfl) (by kernel_rfl) (fun _ _ _ h => h) (Or.inl ⟨by rfl, fun w hSw => ?_⟩) (by assumption) ?_
  · go_simp
  refine wpAnyH_take (i := 4) (v := .pointer (some ⟨p, 0, none⟩)) rfl (by kernel_rfl) (by kernel_rfl) (by kernel_rfl) (fun _ _ _ h => h) (Or.inl ⟨by rfl, fun w hSw => ?_⟩) (by assumption) ?_
  · go_simp
  refine wpAnyH_take (i := 6) (v := .string name) rfl (by kernel_rfl) (by kernel_rfl) (by kernel_rfl) (fun _ _ _ h => h) (Or.inl ⟨by rfl, fun w hSw => ?_⟩) (by assumption) ?_
  · go_simp
  refine wpAnyH_ready (rs := [5]) (by kernel_rfl) (by simp) (AllReadyH.cons (i := 5) rfl (fun K hK => ?_) AllReadyH.nil)
  go_simp
  refine (HDR.out _ _ _ _ HL2d.out).mono ?_
  rintro e w1 ⟨rfl, rfl⟩
  refine hK.out _ _ (by go_keep) (fun hHeld => ?_)
  clear hK K
  refine wpAnyH_ready (rs := [7]) (by kernel_rfl) (by simp) (AllReadyH.cons (i := 7) rfl (fun K hK => ?_) AllReadyH.nil)
  go_simp
  refine (A3.out _ _ _ (by omega) HL2d.out).mono ?_
  rintro e w6 ⟨rfl, n3, B3, hn3, hL3, hS3⟩
  have HL3 : Hid (LogAt w6 base d mb n3 y p dir cp segs op A B3) := hL3
  have HS3 : Hid (Step2 w w6 A B A B3) := (HS2.out.trans (Step2.grown A B2 (HGD w4))).trans hS3
  have c03 := HCL.out _ _ _ _ hL3
  clear hL3 hS3
  refine hK.out _ _ (by go_keep) (fun hHeld => ?_)
  clear hK K
  refine wpAnyH_ready (rs := [8]) (by kernel_rfl) (by simp) (AllReadyH.cons (i := 8) rfl (fun K hK => ?_) AllReadyH.nil)
  go_simp
  refine (HDP _).mono ?_
  rintro e w3 ⟨rfl, rfl⟩
  exact ⟨rfl, rfl, n3, B3, by omega, HL3.out, HS3.out⟩
end Go.Proofs.YtgpgkpciajajcaaGreatDoor

