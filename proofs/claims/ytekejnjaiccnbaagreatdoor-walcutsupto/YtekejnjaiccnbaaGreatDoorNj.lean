/- Several texts in one: Zn, Zo. -/
import Derived.Test.YtekejnjaiccnbaaGreatDoorMi
import Derived.Test.YtekejnjaiccnbaaGreatDoorNf
/- Package disk: Append of nothing, to a file that is not there; of too much. (Printed by mk_nil.py.) -/
namespace Go.Proofs.YtekejnjaiccnbaaGreatDoor
open Go.RowKit Go.Maps
set_option linter.unusedVariables false
set_option maxRecDepth 20000

theorem step_append_bN {ops : Array Oper} {o : Oper} {a : Act} {w : World} {K : Act → World → Prop} {Q : Exit → Act → World → Prop} {E : Prop} (hgd : o.guard = none) (s x : Operand)
    (ho : o.op = .call { callee := .builtin .append, args := #[s, x], argTypes := #[27, 27] }) (base : Nat) (v : Value) (n : Nat) (xs : List Int) (hs : a.eval s = v) (hown : SOwn byteE 5 w base v n xs)
    (hx : a.eval x = .slice none 0 0) (h : K (a.put o.dst v) w) : if Region.wanted o (yielded ops a.tmps) = true then Oper.wp Tryz.prog o a w K Q else E := by
  have hw : Region.wanted o (yielded ops a.tmps) = true := by simp [Region.wanted, hgd]
  rw [if_pos hw]
  obtain ⟨i0, z, hi, hz0, hz1, hz2, hz3⟩ := byteET.info
  have hrun := run_append_owned_none (P := Tryz.prog) (w := w) base 27 o.type 5 i0 byteE.size byteET.under hi v n (byteE.flat xs) hown
  unfold Oper.wp
  simp [execOp, ho, resolve, invoke, builtin, hs, hx, hrun, Result.andThen]
  exact h
set_option maxHeartbeats 4000000 in
theorem d_appNewN (base d mb n B3 B4 B5 : Nat) (off set : Bool) (ah kp wn : Int) (F : ByteArray → Option Nat) (G : Nat → FD) (s : ByteArray) (w : World) (h : DiskIs w base d mb n off set ah kp wn F G) (hs : F s = none) (hss : s.size ≤ 64) (hn : n ≤ 1048576)
    (hB3 : w.rowIs B3 34 1 (fun _ => .pointer (some ⟨d, 0, none⟩))) (hB4 : w.rowIs B4 9 1 (fun _ => .string s)) (hB5 : w.rowIs B5 27 1 (fun _ => .slice none 0 0)) (hb : base ≤ w.heap.size) :
    Calls Tryz.prog 68 #[.pointer (some ⟨B3, 0, none⟩), .pointer (some ⟨B4, 0, none⟩), .pointer (some ⟨B5, 0, none⟩)] w fun e w' => e = .returned (.tuple #[]) ∧ ∃ a' c', DiskIs w' base d mb (n + 1) off set ah kp wn (setF F s (some w.heap.size)) (updG (updG G w.heap.size ⟨none, 0, [], 0⟩) w.heap.size ⟨a', c', [], 0⟩) ∧ Kept w w' (fun k => k = mb) ∧ ∀ x, a' = some x → w.heap.size ≤ x.block := by
  obtain ⟨c0, c1, c2, c3, c4, c5⟩ := h.row.cells
  have p3 : w.cell? ⟨B3, 0, none⟩ = some (.pointer (some ⟨d, 0, none⟩)) := hB3.cell (i := 0) (by omega)
  have p4 : w.cell? ⟨B4, 0, none⟩ = some (.string s) := hB4.cell (i := 0) (by omega)
  have p5 : w.cell? ⟨B5, 0, none⟩ = some (.slice none 0 0) := hB5.cell (i := 0) (by omega)
  have hlook : (Instr.lookup 70 (.map (some mb)) (.string s) false).run Tryz.prog w.drew = .ok (.pointer none) w.drew := by
    have := h.drew.map.look s hss
    rw [hs] at this
    exact this
  have hga : w.grownBy ((w.alloc newFile).drew.drew) none := gb_drew (gb_drew (World.grownBy_alloc w newFile none))
  have hmp : MapIs ((w.alloc newFile).drew.drew) mb n F := h.map.kept hga (by simp)
  obtain ⟨w1, hput, hm1, hg1⟩ := hmp.put s hss hn w.heap.size
  have hg1' : (w.alloc newFile).grownBy w1 (some mb) := ⟨hg1.os, hg1.tape, hg1.output, hg1.size, hg1.block⟩
  have hD1 := h.add hs hm1 hg1' hb
  have hs1 : (w.alloc newFile).heap.size = w.heap.size + 1 := Array.size_push _
  have hB3l := hB3.lt
  have hB4l := hB4.lt
  have hB5l := hB5.lt
  have hdl := h.row.lt
  have p5' : w1.cell? ⟨B5, 0, none⟩ = some (.slice none 0 0) := hg1.cell (hga.cell p5 (by simp)) (fun e => map_ne hB5 h.map (Option.some.inj e))
  have hfile : FileIs w1 base w.heap.size none 0 [] 0 := by have := (hD1.1.file s w.heap.size (setF_same F s _)).1; rw [updG_same] at this; exact this
  have b0 : w1.cell? ⟨w.heap.size, 0, none⟩ = some (.slice none 0 0) := hfile.row.cell (i := 0) (by omega)
  have HRW : Hid (w1.drew.rowIs w.heap.size 96 2 (FileF (.slice none 0 0) 0)) := hfile.row
  have HD1 : Hid (DiskIs w1 base d mb (n + 1) off set ah kp wn (setF F s (some w.heap.size)) (updG G w.heap.size ⟨none, 0, [], 0⟩) ∧ Kept w w1 (fun k => k = mb)) := hD1
  have HBS : Hid (base ≤ w1.drew.heap.size) := Nat.le_trans hb (Nat.le_trans hga.size hg1.size)
  have hput' : (Instr.mapUpdate 70 (.map (some mb)) (.string s) (.pointer (some ⟨w.heap.size, 0, none⟩))).run Tryz.prog ((w.alloc (.cells #[.slice none 0 0, .int .i64 0] 96)).drew.drew) = .ok () w1 := hput
  have n3 : B3 ≠ w.heap.size := by omega
  have n4 : B4 ≠ w.heap.size := by omega
  have nd : d ≠ w.heap.size := by omega
  have f02 := HRW.out.frozen 0
  have hend := HD1.out.1.appended (zs := []) (a2 := none) (c2 := 0) (w2 := w1.drew) (updG_same G w.heap.size ⟨none, 0, [], 0⟩) (setF_same F s (some w.heap.size)) (fun z hz => by cases hz) (by simp) (SOwn.nil 5 _ _) (gb_drew (World.grownBy.refl _ _)) (.inl rfl)
  have HE : Hid (DiskIs (w1.drew.setCell ⟨w.heap.size, 0, none⟩ (.slice none 0 0)) base d mb (n + 1) off set ah kp wn (setF F s (some w.heap.size)) (updG (updG G w.heap.size ⟨none, 0, [], 0⟩) w.heap.size ⟨none, 0, [], 0⟩) ∧ Kept w (w1.drew.setCell ⟨w.heap.size, 0, none⟩ (.slice none 0 0)) (fun k => k = mb)) := ⟨hend.1, HD1.out.2.trans hend.2.1 (fun k hk hx => by
      rcases hx with e | ⟨x, hx, _⟩
      · omega
      · cases hx)⟩
  clear hend
  clear h hs hB3 hB4 hB5 hfile hb c1 c2 c3 c4 c5 hga hmp hm1 hg1 hg1' hD1 hs1 hput
  go_enter Tryz.func68, Tryz.ntmps68
  go_wp2_with fail
  go_region
  go_wp2_with fail
  go_region
  go_wp2_with fail
  go_region_law (refine step_append_bN rfl (.tmp 24) (.tmp 25) rfl base (.slice none 0 0) 0 [] (by simp [Act.eval]) (SOwn.nil 5 _ _) (by simp [Act.eval]) ?_)
  all_goals go_wp2
  all_goals go_end0
  all_goals exact ⟨rfl, none, 0, HE.out.1, HE.out.2, fun x hx => by cases hx⟩
set_option maxHeartbeats 4000000 in
theorem v_app1N (base d mb n B3 B4 B5 : Nat) (off set : Bool) (ah kp wn : Int) (V : Cont) (B : Nat → Prop) (s : ByteArray) (w : World) (F : ByteArray → Option Nat) (G : Nat → FD) (h : DiskIs w base d mb n off set ah kp wn F G) (hv : ∀ s, V s = (F s).map fun b => ((G b).zs, (G b).syn)) (hB : ∀ k, OwnAll d mb F G k → B k) (hss : s.size ≤ 64) (hn : n ≤ 1048576)
    (hB3 : w.rowIs B3 34 1 (fun _ => .pointer (some ⟨d, 0, none⟩))) (hB4 : w.rowIs B4 9 1 (fun _ => .string s)) (hB5 : w.rowIs B5 27 1 (fun _ => .slice none 0 0)) (hVs : V s = none) (hb : base ≤ w.heap.size) :
    Calls Tryz.prog 68 #[.pointer (some ⟨B3, 0, none⟩), .pointer (some ⟨B4, 0, none⟩), .pointer (some ⟨B5, 0, none⟩)] w fun e w' => e = .returned (.tuple #[]) ∧ ∃ n' F' G' B', n' ≤ n + 1 ∧ DiskIs w' base d mb n' off set ah kp wn F' G' ∧ (∀ t, setV V s (some ([], 0)) t = (F' t).map fun b => ((G' b).zs, (G' b).syn)) ∧ (∀ k, OwnAll d mb F' G' k → B' k) ∧ Step w w' B B' := by
  have hvs := hv s
  cases hF : F s with
  | none =>
    refine (d_appNewN base d mb n B3 B4 B5 off set ah kp wn F G s w h hF hss hn hB3 hB4 hB5 hb).mono ?_
    rintro e w' ⟨rfl, a', c', hd, hk, hx⟩
    obtain ⟨B', ⟨F2, G2, h1, h2, h3⟩, h4⟩ := DV.of (f := ⟨a', c', [], 0⟩) (s := s) (b := w.heap.size) hB hv hd (setF_same F s _) (updG_same _ _ _) (fun t ht => setF_other F _ ht) (fun t k ht hk => by
      have := (h.lt t k hk).1
      rw [updG_other _ _ (by omega), updG_other _ _ (by omega)]) hk (fun k hk => .inr (.inl hk)) (fun _ => Nat.le_refl _) (fun x hx' => .inr (.inl (hx x hx')))
    exact ⟨rfl, n + 1, F2, G2, B', Nat.le_refl _, h1, h2, h3, h4⟩
  | some b =>
    exfalso
    rw [hVs, hF] at hvs
    cases hvs
set_option maxHeartbeats 4000000 in
theorem v_appendByN (base d mb n : Nat) (set : Bool) (ah kp wn : Int) (V : Cont) (B : Nat → Prop) (s : ByteArray) (R : Int → World → Prop) (w : World) (h : DV w base d mb n false set ah kp wn V B) (hnm : nameB s = true) (hn : n < 1048576) (hVs : V s = none)
    (hw : Calls Tryz.prog 67 #[.pointer (some ⟨d, 0, none⟩), .bool true, .func (.func 68) #[] #[.pointer (some ⟨w.heap.size, 0, none⟩), .pointer (some ⟨w.heap.size + 1, 0, none⟩), .pointer (some ⟨w.heap.size + 1 + 1, 0, none⟩)]] (box3 w d s (.slice none 0 0)) fun e w' => ∃ c, e = .returned (.int .i64 c) ∧ R c w') :
    Calls Tryz.prog 27 #[.pointer (some ⟨d, 0, none⟩), .string s, .slice none 0 0] w fun e w' => ∃ c, e = .returned (.int .i64 c) ∧ R c w' := by
  obtain ⟨hg, r3, r4, r5, hsl⟩ := box3_facts w d s (.slice none 0 0)
  have hss := nameB_size hnm
  have HRC : Hid (Calls Tryz.prog 65 #[.pointer (some ⟨d, 0, none⟩), .slice (some ⟨w.heap.size + 1 + 1 + 1, 0, none⟩) 1 1] (box3 w d s (.slice none 0 0)) fun e w' => e = .returned (.int .i64 0) ∧ (box3 w d s (.slice none 0 0)) = w') := by
    have := d_reach d mb false set ah kp wn _ [s] 1 1 _ (h.row.of_block (hg.block d h.row.lt (by simp))) hsl rfl (by omega) (by intro x hx; simp only [List.mem_singleton] at hx; subst hx; omega)
    rw [show reachC false [s] = 0 by simp [reachC, hnm]] at this
    exact this
  have HRM : Hid (Calls Tryz.prog 66 #[.pointer (some ⟨d, 0, none⟩), .string s, .int .i64 (0 : Nat)] (box3 w d s (.slice none 0 0)) fun e w' => e = .returned (.bool true) ∧ (box3 w d s (.slice none 0 0)) = w') := by
    obtain ⟨F, G, hd, hv, _⟩ := h
    have hd4 := hd.kept hg
    have hvs := hv s
    cases hF : F s with
    | none =>
      have := d_roomNew d mb n false set ah kp wn ((0 : Nat) : Int) F s _ hd4.row hd4.map hss hF hn
      rw [decide_eq_true (show ((0 : Nat) : Int) ≤ 4194304 by decide)] at this
      exact this
    | some b =>
      exfalso
      rw [hVs, hF] at hvs
      cases hvs
  have HW : Hid (Calls Tryz.prog 67 #[.pointer (some ⟨d, 0, none⟩), .bool true, .func (.func 68) #[] #[.pointer (some ⟨w.heap.size, 0, none⟩), .pointer (some ⟨w.heap.size + 1, 0, none⟩), .pointer (some ⟨w.heap.size + 1 + 1, 0, none⟩)]] (box3 w d s (.slice none 0 0)) fun e w' => ∃ c, e = .returned (.int .i64 c) ∧ R c w') := hw
  unfold box3 at HRC HRM HW
  clear h hg r3 r4 r5 hsl hw hn
  go_enter Tryz.func27, Tryz.ntmps27
  go_wp2_with fail
  refine HRC.out.mono ?_
  rintro e w' ⟨rfl, rfl⟩
  go_wp2_with fail
  refine HRM.out.mono ?_
  rintro e w' ⟨rfl, rfl⟩
  go_wp2_with fail
  refine HW.out.mono ?_
  rintro e w' ⟨c, rfl, hR⟩
  have HR : Hid (R c w') := hR
  clear hR
  go_wp2
  go_ret
  exact ⟨c, rfl, HR.out⟩
set_option maxHeartbeats 4000000 in
theorem app_closN (base d mb n : Nat) (off set set' : Bool) (ah ah' kp wn wn' : Int) (V : Cont) (B : Nat → Prop) (s : ByteArray) (F : ByteArray → Option Nat) (G : Nat → FD) (w w1 : World) (hd4 : DiskIs (box3 w d s (.slice none 0 0)) base d mb n off set ah kp wn F G) (h1 : DiskIs w1 base d mb n off set' ah' kp wn' F G) (hk1 : Kept (box3 w d s (.slice none 0 0)) w1 (fun k => k = d)) (hv : ∀ s, V s = (F s).map fun b => ((G b).zs, (G b).syn)) (hB : ∀ k, OwnAll d mb F G k → B k)
    (hnm : nameB s = true) (hn : n < 1048576) (hVs : V s = none) (hb : base ≤ w.heap.size) :
    Calls Tryz.prog 68 #[.pointer (some ⟨w.heap.size, 0, none⟩), .pointer (some ⟨w.heap.size + 1, 0, none⟩), .pointer (some ⟨w.heap.size + 1 + 1, 0, none⟩)] w1 fun e w' => e = .returned (.tuple #[]) ∧ ∃ n' F' G', DiskIs w' base d mb n' off set' ah' kp wn' F' G' ∧ n' ≤ n + 1 ∧ (∀ t, setV V s (some ([], 0)) t = (F' t).map fun b => ((G' b).zs, (G' b).syn)) ∧ ∃ B', (∀ k, OwnAll d mb F' G' k → B' k) ∧ Step w w' B B' := by
  obtain ⟨hg, r3, r4, r5, hsl⟩ := box3_facts w d s (.slice none 0 0)
  obtain ⟨q3, q4, q5⟩ := boxes_stay hd4.row hk1
  refine (v_app1N base d mb n _ _ _ off set' ah' kp wn' V B s w1 F G h1 hv hB (nameB_size hnm) (by omega) q3 q4 q5 hVs (Nat.le_trans hb (Nat.le_trans hg.size hk1.size))).mono ?_
  rintro e w' ⟨rfl, n', F', G', B', hn', hd', hv', hB', hst⟩
  exact ⟨rfl, n', F', G', hd', hn', hv', B', hB', ((Step.grown B hg).trans ⟨hk1.mono (fun k _ hk => hB k (.inl hk)), fun k _ hk => hk⟩).trans hst⟩
set_option maxHeartbeats 4000000 in
theorem v_appendN (base d mb n : Nat) (ah kp wn : Int) (V : Cont) (B : Nat → Prop) (s : ByteArray) (w : World) (h : DV w base d mb n false false ah kp wn V B) (hnm : nameB s = true) (hn : n < 1048576) (hw : 0 ≤ wn ∧ wn ≤ 1000000000) (hVs : V s = none) (hb : base ≤ w.heap.size) :
    Calls Tryz.prog 27 #[.pointer (some ⟨d, 0, none⟩), .string s, .slice none 0 0] w fun e w' => e = .returned (.int .i64 0) ∧ ∃ n' B', n' ≤ n + 1 ∧ DV w' base d mb n' false false ah kp (wn + 1) (setV V s (some ([], 0))) B' ∧ Step w w' B B' := by
  obtain ⟨hg, _⟩ := box3_facts w d s (.slice none 0 0)
  obtain ⟨F, G, hd, hv, hB⟩ := id h
  have hd4 := hd.kept hg
  refine (v_appendByN base d mb n false ah kp wn V B s (fun c w' => c = 0 ∧ ∃ n' B', n' ≤ n + 1 ∧ DV w' base d mb n' false false ah kp (wn + 1) (setV V s (some ([], 0))) B' ∧ Step w w' B B') w h hnm hn hVs ?_).mono ?_
  · refine (d_writeGo46 base d mb n true false ah kp wn F G _ (fun w' => ∃ n' B', n' ≤ n + 1 ∧ DV w' base d mb n' false false ah kp (wn + 1) (setV V s (some ([], 0))) B' ∧ Step w w' B B') _ hd4 hw ?_).mono ?_
    · intro w1 h1 hk1
      refine (app_closN base d mb n false false false ah ah kp wn (wn + 1) V B s F G w w1 hd4 h1 hk1 hv hB hnm hn hVs hb).mono ?_
      rintro e w' ⟨rfl, n', F', G', hd', hn', hv', B', hB', hst⟩
      exact ⟨rfl, n', B', hn', ⟨F', G', hd', hv', hB'⟩, hst⟩
    · rintro e w' ⟨rfl, hP⟩
      exact ⟨0, rfl, rfl, hP⟩
  · rintro e w' ⟨c, rfl, rfl, hP⟩
    exact ⟨rfl, hP⟩
set_option maxHeartbeats 4000000 in
theorem v_appendArmedN (base d mb n : Nat) (ah kp wn : Int) (V : Cont) (B : Nat → Prop) (s : ByteArray) (w : World) (h : DV w base d mb n false true ah kp wn V B) (ha : 0 < ah ∧ ah ≤ 9223372036854775807) (hnm : nameB s = true) (hn : n < 1048576) (hw : 0 ≤ wn ∧ wn ≤ 1000000000) (hVs : V s = none) (hb : base ≤ w.heap.size) :
    Calls Tryz.prog 27 #[.pointer (some ⟨d, 0, none⟩), .string s, .slice none 0 0] w fun e w' => e = .returned (.int .i64 0) ∧ ∃ n' B', n' ≤ n + 1 ∧ DV w' base d mb n' false true (ah - 1) kp (wn + 1) (setV V s (some ([], 0))) B' ∧ Step w w' B B' := by
  obtain ⟨hg, _⟩ := box3_facts w d s (.slice none 0 0)
  obtain ⟨F, G, hd, hv, hB⟩ := id h
  have hd4 := hd.kept hg
  refine (v_appendByN base d mb n true ah kp wn V B s (fun c w' => c = 0 ∧ ∃ n' B', n' ≤ n + 1 ∧ DV w' base d mb n' false true (ah - 1) kp (wn + 1) (setV V s (some ([], 0))) B' ∧ Step w w' B B') w h hnm hn hVs ?_).mono ?_
  · refine (d_writeArmed46 base d mb n true false ah kp wn F G _ (fun w' => ∃ n' B', n' ≤ n + 1 ∧ DV w' base d mb n' false true (ah - 1) kp (wn + 1) (setV V s (some ([], 0))) B' ∧ Step w w' B B') _ hd4 hw ha ?_).mono ?_
    · intro w1 h1 hk1
      refine (app_closN base d mb n false true true ah (ah - 1) kp wn (wn + 1) V B s F G w w1 hd4 h1 hk1 hv hB hnm hn hVs hb).mono ?_
      rintro e w' ⟨rfl, n', F', G', hd', hn', hv', B', hB', hst⟩
      exact ⟨rfl, n', B', hn', ⟨F', G', hd', hv', hB'⟩, hst⟩
    · rintro e w' ⟨rfl, hP⟩
      exact ⟨0, rfl, rfl, hP⟩
  · rintro e w' ⟨c, rfl, rfl, hP⟩
    exact ⟨rfl, hP⟩
set_option maxHeartbeats 4000000 in
theorem v_appendCutN (base d mb n : Nat) (kp wn : Int) (V : Cont) (B : Nat → Prop) (s : ByteArray) (w : World) (h : DV w base d mb n false true 0 kp wn V B) (hk : -9223372036854775808 ≤ kp ∧ kp ≤ 9223372036854775807) (hnm : nameB s = true) (hn : n < 1048576) (hw : 0 ≤ wn ∧ wn ≤ 1000000000) (hVs : V s = none) (hb : base ≤ w.heap.size) :
    Calls Tryz.prog 27 #[.pointer (some ⟨d, 0, none⟩), .string s, .slice none 0 0] w fun e w' => e = .returned (.int .i64 60) ∧ ∃ n' B', n' ≤ n + 1 ∧ DV w' base d mb n' true false 0 0 (wn + 1) (fun t => (setV V s (some ([], 0)) t).map (cutV kp)) B' ∧ Step w w' B B' := by
  obtain ⟨hg, _⟩ := box3_facts w d s (.slice none 0 0)
  obtain ⟨F, G, hd, hv, hB⟩ := id h
  have hd4 := hd.kept hg
  refine (v_appendByN base d mb n true 0 kp wn V B s (fun c w' => c = 60 ∧ ∃ n' B', n' ≤ n + 1 ∧ DV w' base d mb n' true false 0 0 (wn + 1) (fun t => (setV V s (some ([], 0)) t).map (cutV kp)) B' ∧ Step w w' B B') w h hnm hn hVs ?_).mono ?_
  · refine (d_writeCut46 base d mb n false kp wn F G _ (fun w1 n' F' G' => n' ≤ n + 1 ∧ (∀ t, setV V s (some ([], 0)) t = (F' t).map fun b => ((G' b).zs, (G' b).syn)) ∧ ∃ B', (∀ k, OwnAll d mb F' G' k → B' k) ∧ Step w w1 B B') _ hd4 hw hk ?_).mono ?_
    · intro w1 h1 hk1
      exact app_closN base d mb n false true true 0 0 kp wn (wn + 1) V B s F G w w1 hd4 h1 hk1 hv hB hnm hn hVs hb
    · rintro e w' ⟨rfl, w1, n', F', G', ⟨hn', hv', B', hB', hst⟩, hd', hk'⟩
      obtain ⟨h1, h2⟩ := DV.cut (off := false) (set := true) (ah := 0) (kp := kp) (wn := wn) hd' hv' hB' hk'
      exact ⟨60, rfl, rfl, n', B', hn', h1, hst.trans h2⟩
  · rintro e w' ⟨c, rfl, rfl, hP⟩
    exact ⟨rfl, hP⟩
set_option maxHeartbeats 4000000 in
theorem x_appendN (base d mb n : Nat) (x : DSt) (B : Nat → Prop) (s : ByteArray) (w : World) (h : DS w base d mb n x B) (hok : x.ok) (hnm : nameB s = true) (hn : n < 1048576) (hVs : x.V s = none) (hb : base ≤ w.heap.size) :
    Calls Tryz.prog 27 #[.pointer (some ⟨d, 0, none⟩), .string s, .slice none 0 0] w (Leaves w base d mb n (x.append s []) B) := by
  obtain ⟨off, set, ah, kp, wn, V⟩ := x
  obtain ⟨hw, ha, hk⟩ := hok
  have hss := nameB_size hnm
  have e0 : oldV V s = ([], 0) := by unfold oldV; rw [show V s = none from hVs]; rfl
  unfold DSt.append
  cases off with
  | true =>
    refine (v_appendOff base d mb n set ah kp wn V B s none 0 0 w h (by omega)).mono ?_
    rintro e w' ⟨rfl, hg⟩
    exact leaves_same h hg
  | false =>
    rw [if_neg (by simp)]
    dsimp only
    rw [e0, List.append_nil]
    unfold DSt.wr
    cases set with
    | false =>
      refine (v_appendN base d mb n ah kp wn V B s w h hnm hn hw hVs hb).mono ?_
      rintro e w' ⟨rfl, n', B', hn', hd', hst⟩
      exact ⟨rfl, n', B', hn', hd', hst⟩
    | true =>
      rw [if_neg (by simp)]
      by_cases h0 : ah = 0
      · subst h0
        refine (v_appendCutN base d mb n kp wn V B s w h hk hnm hn hw hVs hb).mono ?_
        rintro e w' ⟨rfl, n', B', hn', hd', hst⟩
        exact ⟨rfl, n', B', hn', hd', hst⟩
      · rw [if_neg h0]
        have h1 := ha rfl
        refine (v_appendArmedN base d mb n ah kp wn V B s w h (by dsimp only at h1; omega) hnm hn hw hVs hb).mono ?_
        rintro e w' ⟨rfl, n', B', hn', hd', hst⟩
        exact ⟨rfl, n', B', hn', hd', hst⟩
set_option maxHeartbeats 4000000 in
theorem x_appendFull (base d mb n : Nat) (x : DSt) (B : Nat → Prop) (s : ByteArray) (a : Option Addr) (M cd : Nat) (w : World) (h : DS w base d mb n x B) (hon : x.off = false) (hnm : nameB s = true) (hn : n < 1048576) (hVs : x.V s = none) (hM : 4194304 < M) :
    Calls Tryz.prog 27 #[.pointer (some ⟨d, 0, none⟩), .string s, .slice a M cd] w fun e w' => e = .returned (.int .i64 63) ∧ w.grownBy w' none := by
  obtain ⟨off, set, ah, kp, wn, V⟩ := x
  obtain rfl : off = false := hon
  have hVs' : V s = none := hVs
  have h' : DV w base d mb n false set ah kp wn V B := h
  obtain ⟨hg, r3, r4, r5, hsl⟩ := box3_facts w d s (.slice a M cd)
  have hss := nameB_size hnm
  have HRC : Hid (Calls Tryz.prog 65 #[.pointer (some ⟨d, 0, none⟩), .slice (some ⟨w.heap.size + 1 + 1 + 1, 0, none⟩) 1 1] (box3 w d s (.slice a M cd)) fun e w' => e = .returned (.int .i64 0) ∧ (box3 w d s (.slice a M cd)) = w') := by
    have := d_reach d mb false set ah kp wn _ [s] 1 1 _ (h'.row.of_block (hg.block d h'.row.lt (by simp))) hsl rfl (by omega) (by intro x hx; simp only [List.mem_singleton] at hx; subst hx; omega)
    rw [show reachC false [s] = 0 by simp [reachC, hnm]] at this
    exact this
  have HRM : Hid (Calls Tryz.prog 66 #[.pointer (some ⟨d, 0, none⟩), .string s, .int .i64 M] (box3 w d s (.slice a M cd)) fun e w' => e = .returned (.bool false) ∧ (box3 w d s (.slice a M cd)) = w') := by
    obtain ⟨F, G, hd, hv, _⟩ := h'
    have hd4 := hd.kept hg
    have hvs := hv s
    cases hF : F s with
    | none =>
      have := d_roomNew d mb n false set ah kp wn M F s _ hd4.row hd4.map hss hF hn
      rw [decide_eq_false (show ¬ ((M : Nat) : Int) ≤ 4194304 by omega)] at this
      exact this
    | some b =>
      exfalso
      rw [hVs', hF] at hvs
      cases hvs
  have HG : Hid (w.grownBy (box3 w d s (.slice a M cd)) none) := hg
  unfold box3 at HRC HRM HG
  clear h h' hg r3 r4 r5 hsl hn hVs hVs'
  go_enter Tryz.func27, Tryz.ntmps27
  go_wp2_with fail
  refine HRC.out.mono ?_
  rintro e w' ⟨rfl, rfl⟩
  go_wp2_with fail
  refine HRM.out.mono ?_
  rintro e w' ⟨rfl, rfl⟩
  go_wp2
  go_ret
  exact ⟨rfl, HG.out⟩
end Go.Proofs.YtekejnjaiccnbaaGreatDoor

/- Package wal: Cut, of nothing and of too much. (Printed by mk_cutN.py.) -/
namespace Go.Proofs.YtekejnjaiccnbaaGreatDoor
open Go.RowKit Go.Maps Go.Sort
set_option linter.unusedVariables false
set_option maxRecDepth 20000

set_option maxHeartbeats 8000000 in
theorem w_putN (base d mb n : Nat) (x : DSt) (p : Nat) (dir cp name : ByteArray) (segs : List Nat) (op : Nat) (A B : Nat → Prop) (w : World) (hdir : dirB dir = true) (h : LogAt w base d mb n x p dir cp segs op A B) (hc : x.Calm) (hw : x.wn ≤ 999999980) (hn : n < 1048576) (hnew : x.V (newN dir) = none) (hname : nameB name = true) (hb : base ≤ w.heap.size) :
    Calls Tryz.prog 100 #[.pointer (some ⟨p, 0, none⟩), .string name, .slice none 0 0] w fun e w' => e = .returned (.tuple #[]) ∧ ∃ n' B', n' ≤ n + 2 ∧ LogAt w' base d mb n' (putX x dir name ([] : List Int)) p dir cp segs op A B' ∧ Step2 w w' A B A B' := by
  have hds : dir.size ≤ 32 := by simp only [dirB, Bool.and_eq_true, decide_eq_true_eq] at hdir; exact hdir.2
  have hnm := new_name hdir
  have HD0 := fun w => w_done0 w
  obtain ⟨x1, ex1⟩ : ∃ x1, x1 = (x.append (newN dir) ([] : List Int)).2 := ⟨_, rfl⟩
  obtain ⟨x2, ex2⟩ : ∃ x2, x2 = (x1.sync (newN dir)).2 := ⟨_, rfl⟩
  obtain ⟨x3, ex3⟩ : ∃ x3, x3 = (x2.rename (newN dir) name).2 := ⟨_, rfl⟩
  have hX3 : putX x dir name ([] : List Int) = x3 := by unfold putX; rw [ex3, ex2, ex1]
  have e0 : oldV x.V (newN dir) = ([], 0) := by unfold oldV; rw [hnew]; rfl
  have k1 := calm_app x hc (newN dir) ([] : List Int)
  have hc1 : x1.Calm := by rw [ex1, k1]; exact calm_next x hc (by omega) _
  have hV1 : x1.V (newN dir) = some (([] : List Int), 0) := by rw [ex1, k1]; dsimp only; rw [setV_same, e0]; rfl
  have hw1 : x1.wn = x.wn + 1 := by rw [ex1, k1]
  have k2 := calm_sync x1 hc1 (newN dir) _ hV1
  have hc2 : x2.Calm := by rw [ex2, k2]; exact calm_next x1 hc1 (by omega) _
  have hV2 : x2.V (newN dir) = some (([] : List Int), ([] : List Int).length) := by rw [ex2, k2]; exact setV_same _ _ _
  have hw2 : x2.wn = x.wn + 2 := by rw [ex2, k2]; dsimp only; omega
  have k3 := calm_ren x2 hc2 (newN dir) name _ hV2
  have hBd : B d := by obtain ⟨F, G, _, _, hb⟩ := h.disk; exact hb d (.inl rfl)
  have hBm : B mb := by obtain ⟨F, G, _, _, hb⟩ := h.disk; exact hb mb (.inr (.inl rfl))
  have A1 : Hid (∀ w1, w.grownBy w1 none → Calls Tryz.prog 27 #[.pointer (some ⟨d, 0, none⟩), .string (newN dir), .slice none 0 0] w1 fun e w' => e = .returned (.int .i64 0) ∧ ∃ n' B', n' ≤ n + 1 ∧ LogAt w' base d mb n' x1 p dir cp segs op A B' ∧ Step2 w w' A B A B') := fun w1 hg => by
    have h1 := h.grown hg
    refine (x_appendN base d mb n x B (newN dir) w1 h1.disk hc.ok hnm (by omega) hnew (Nat.le_trans hb hg.size)).mono ?_
    rintro e w' ⟨rfl, n', B', hn', hd', hst⟩
    rw [← ex1] at hd'
    obtain ⟨B'', h2, h3⟩ := h1.write hd' hst
    exact ⟨by rw [k1], n', B'', hn', h2, (Step2.grown A B hg).trans h3⟩
  have A2 : Hid (∀ n1 B1 w1, LogAt w1 base d mb n1 x1 p dir cp segs op A B1 → Calls Tryz.prog 53 #[.pointer (some ⟨d, 0, none⟩), .string (newN dir)] w1 fun e w' => e = .returned (.int .i64 0) ∧ ∃ n' B', n' ≤ n1 ∧ LogAt w' base d mb n' x2 p dir cp segs op A B' ∧ Step2 w1 w' A B1 A B') := fun n1 B1 w1 h1 => by
    refine (x_syncN base d mb n1 x1 B1 (newN dir) w1 h1.disk hc1.ok hnm).mono ?_
    rintro e w' ⟨rfl, n', B', hn', hd', hst⟩
    rw [← ex2] at hd'
    obtain ⟨B'', h2, h3⟩ := h1.write hd' hst
    exact ⟨by rw [k2], n', B'', hn', h2, h3⟩
  have A3 : Hid (∀ n1 B1 w1, n1 ≤ 1048576 → LogAt w1 base d mb n1 x2 p dir cp segs op A B1 → Calls Tryz.prog 127 #[.pointer (some ⟨d, 0, none⟩), .string (newN dir), .string name] w1 fun e w' => e = .returned (.int .i64 0) ∧ ∃ n' B', n' ≤ n1 + 1 ∧ LogAt w' base d mb n' x3 p dir cp segs op A B' ∧ Step2 w1 w' A B1 A B') := fun n1 B1 w1 hn1 h1 => by
    refine (x_rename base d mb n1 x2 B1 (newN dir) name w1 h1.disk hc2.ok hnm hname hn1).mono ?_
    rintro e w' ⟨rfl, n', B', hn', hd', hst⟩
    rw [← ex3] at hd'
    obtain ⟨B'', h2, h3⟩ := h1.write hd' hst
    exact ⟨by rw [k3], n', B'', hn', h2, h3⟩
  have HDR : Hid (∀ w1 n1 x' B1, LogAt w1 base d mb n1 x' p dir cp segs op A B1 → Calls Tryz.prog 92 #[.pointer (some ⟨p, 0, none⟩)] w1 fun e w' => e = .returned (.string (newN dir)) ∧ w1 = w') := fun w1 n1 x' B1 h1 => by
    obtain ⟨a1, c1, hW, _⟩ := h1.wal
    exact w_draft p d dir cp _ _ w1 (by omega) hW
  have HCL : Hid (∀ w1 n1 x' B1, LogAt w1 base d mb n1 x' p dir cp segs op A B1 → w1.cell? ⟨p, 0, none⟩ = some (.pointer (some ⟨d, 0, none⟩))) := fun w1 n1 x' B1 h1 => by
    obtain ⟨a1, c1, hW, _⟩ := h1.wal
    exact hW.cells.1
  have HGD : ∀ W : World, W.grownBy W.drew none := fun W => gb_drew (World.grownBy.refl _ _)
  have HL : Hid (LogAt w base d mb n x p dir cp segs op A B) := h
  have c0 := HCL.out _ _ _ _ h
  have HLd : Hid (LogAt w.drew base d mb n x p dir cp segs op A B) := h.grown (HGD w)
  rw [hX3]
  clear h hBd hBm k1 k2 k3 hc1 hc2 hV1 hV2 ex1 ex2 ex3 hX3 e0 hnew
  go_enter Tryz.func100, Tryz.ntmps100
  go_wp2_with fail
  go_region_held3 (fun W => W.cell? ⟨p, 0, none⟩ = some (.pointer (some ⟨d, 0, none⟩))) (go_keep) (first
    | (go_at_call 92; refine (HDR.out _ _ _ _ HLd.out).mono ?_; rintro e w1 ⟨rfl, rfl⟩)
    | (go_at_call 27; refine (A1.out _ (HGD w)).mono ?_; rintro e w2 ⟨rfl, n1, B1, hn1, hL1, hS1⟩; have HL1 : Hid (LogAt w2 base d mb n1 x1 p dir cp segs op A B1) := hL1; have HS1 : Hid (Step2 w w2 A B A B1) := hS1; have c01 := HCL.out _ _ _ _ hL1; clear hL1 hS1)
    | (go_at_call 52; refine (HD0 _).mono ?_; rintro e w3 ⟨rfl, rfl⟩))
  have HL1d : Hid (LogAt w2.drew base d mb n1 x1 p dir cp segs op A B1) := HL1.out.grown (HGD w2)
  go_wp2_with fail
  go_region_held3 (fun W => W.cell? ⟨p, 0, none⟩ = some (.pointer (some ⟨d, 0, none⟩))) (go_keep) (first
    | (go_at_call 92; refine (HDR.out _ _ _ _ HL1d.out).mono ?_; rintro e w1 ⟨rfl, rfl⟩)
    | (go_at_call 53; refine (A2.out _ _ _ HL1d.out).mono ?_; rintro e w4 ⟨rfl, n2, B2, hn2, hL2, hS2⟩; have HL2 : Hid (LogAt w4 base d mb n2 x2 p dir cp segs op A B2) := hL2; have HS2 : Hid (Step2 w w4 A B A B2) := (HS1.out.trans (Step2.grown A B1 (HGD w2))).trans hS2; have c02 := HCL.out _ _ _ _ hL2; clear hL2 hS2)
    | (go_at_call 52; refine (HD0 _).mono ?_; rintro e w3 ⟨rfl, rfl⟩))
  have HL2d : Hid (LogAt w4.drew base d mb n2 x2 p dir cp segs op A B2) := HL2.out.grown (HGD w4)
  go_wp2_with fail
  go_region_held3 (fun W => W.cell? ⟨p, 0, none⟩ = some (.pointer (some ⟨d, 0, none⟩))) (go_keep) (first
    | (go_at_call 92; refine (HDR.out _ _ _ _ HL2d.out).mono ?_; rintro e w1 ⟨rfl, rfl⟩)
    | (go_at_call 127; refine (A3.out _ _ _ (by omega) HL2d.out).mono ?_; rintro e w6 ⟨rfl, n3, B3, hn3, hL3, hS3⟩; have HL3 : Hid (LogAt w6 base d mb n3 x3 p dir cp segs op A B3) := hL3; have HS3 : Hid (Step2 w w6 A B A B3) := (HS2.out.trans (Step2.grown A B2 (HGD w4))).trans hS3; have c03 := HCL.out _ _ _ _ hL3; clear hL3 hS3)
    | (go_at_call 52; refine (HD0 _).mono ?_; rintro e w3 ⟨rfl, rfl⟩))
  go_wp2
  go_end0
  exact ⟨rfl, n3, B3, by omega, HL3.out, HS3.out⟩
set_option maxHeartbeats 8000000 in
theorem w_cutN (base d mb n : Nat) (x : DSt) (p : Nat) (dir cp : ByteArray) (segs : List Nat) (op : Nat) (A B : Nat → Prop) (w : World) (hdir : dirB dir = true) (ht : Tab w) (hf : Far A B) (h : LogAt w base d mb n x p dir cp segs op A B) (hc : x.Calm) (hw : x.wn ≤ 999999980) (hop : op < 99999998) (hn : n < 1048574) (hnew : x.V (newN dir) = none) (hsg : segs.length ≤ 4194304) (hs8 : ∀ k ∈ segs, k < 100000000) (hcp : cp.size ≤ 64) (hdel : DelOk (putX x dir (cpN dir op) ([] : List Int)) ((if cp = ⟨#[]⟩ then [] else [cp]) ++ segs.map (segN dir))) (hb : base ≤ w.heap.size) :
    Calls Tryz.prog 58 #[.pointer (some ⟨p, 0, none⟩), .slice none 0 0] w fun e w' => e = .returned (.tuple #[]) ∧ CutEnd w base d mb (n + 2) (cutX x dir cp segs op ([] : List Int)) A B w' := by
  have hds : dir.size ≤ 32 := by simp only [dirB, Bool.and_eq_true, decide_eq_true_eq] at hdir; exact hdir.2
  have HD0 := fun w => w_done0 w
  have HL : Hid (LogAt w base d mb n x p dir cp segs op A B) := h
  have HDEL : Hid (DelOk (putX x dir (cpN dir op) ([] : List Int)) ((if cp = ⟨#[]⟩ then [] else [cp]) ++ segs.map (segN dir))) := hdel
  have HS8 : Hid (∀ k ∈ segs, k < 100000000) := hs8
  have HT : Hid (Tab w) := ht
  have HF : Hid (Far A B) := hf
  have HDIR : Hid (dirB dir = true) := hdir
  obtain ⟨a, c, hW, _⟩ := h.wal
  have c4 := hW.cells.2.2.2.2
  have HCN : Hid (Calls Tryz.prog 99 #[.pointer (some ⟨p, 0, none⟩), .int .i64 (op : Int)] w fun e w' => e = .returned (.string (cpN dir op)) ∧ w.grownBy w' none) := w_cpoint p d dir cp _ _ op (by omega) w (by omega) ht hW
  have HPT : Hid (∀ w1, w.grownBy w1 none → Calls Tryz.prog 100 #[.pointer (some ⟨p, 0, none⟩), .string (cpN dir op), .slice none 0 0] w1 fun e w' => e = .returned (.tuple #[]) ∧ ∃ n' B', n' ≤ n + 2 ∧ LogAt w' base d mb n' (putX x dir (cpN dir op) ([] : List Int)) p dir cp segs op A B' ∧ Step2 w w' A B A B') := fun w1 hg => by
    refine (w_putN base d mb n x p dir cp (cpN dir op) segs op A B w1 hdir (HL.out.grown hg) hc hw (by omega) hnew (cp_name hdir op) (Nat.le_trans hb hg.size)).mono ?_
    rintro e w' ⟨rfl, n', B', h1, h2, h3⟩
    exact ⟨rfl, n', B', h1, h2, (Step2.grown A B hg).trans h3⟩
  clear h hW hdel hs8 ht hf hdir hnew
  go_enter Tryz.func58, Tryz.ntmps58
  go_wp2_with fail
  refine HCN.out.mono ?_
  rintro e w1 ⟨rfl, hg1⟩
  go_wp2_with fail
  refine (HPT.out _ hg1).mono ?_
  rintro e w2 ⟨rfl, n2, B2, hn2, hL2, hS2⟩
  obtain ⟨a2, k2, hW2, _⟩ := hL2.wal
  have y4 := hW2.cells.2.2.2.2
  have z4 := hW2.frozen 4
  have hSO := hL2.setOpen (op + 1) ((op : Int) + 1) (by omega)
  obtain ⟨aa, ac, hC3⟩ := hSO.1.cutAt (hS2.trans hSO.2)
  have HC3 : Hid (CutAt w (w2.setCell ⟨p, 4, none⟩ (.int .i64 ((op : Int) + 1))) base d mb n2 (putX x dir (cpN dir op) ([] : List Int)) p dir cp segs (op + 1) A B B2 aa ac) := hC3
  obtain ⟨a3, k3, hW3, _⟩ := hSO.1.wal
  have y2 := hW3.cells.2.2.1
  clear hg1 hL2 hS2 hW2 hSO hW3 HCN HPT hC3
  go_upto_if 26 with fail
  go_cut [] from 5 (fun wc => ∃ n4 B4, n4 ≤ n + 2 ∧ CutAt w wc base d mb n4 (delAll (putX x dir (cpN dir op) ([] : List Int)) (if cp = ⟨#[]⟩ then [] else [cp])) p dir cp segs (op + 1) A B B4 aa ac)
  case first =>
    by_cases hcp0 : cp = ⟨#[]⟩
    · have q0 : cp.toList.isEmpty = true := by rw [str_none, hcp0]; rfl
      rw [q0, Bool.not_true]
      go_wp2_with fail
      go_meet
      exact ⟨n2, B2, hn2, by rw [if_pos hcp0]; exact HC3.out⟩
    · have q0 : cp.toList.isEmpty = false := by rw [str_none]; simp [hcp0]
      have hd := HDEL.out
      rw [if_neg hcp0] at hd
      obtain ⟨d1, d2, d3, _⟩ := hd
      have HDL : Hid (Calls Tryz.prog 91 #[.pointer (some ⟨d, 0, none⟩), .string cp] (w2.setCell ⟨p, 4, none⟩ (.int .i64 ((op : Int) + 1))).drew fun e w' => e = .returned (.int .i64 0) ∧ ∃ n' B', n' ≤ n2 ∧ CutAt w w' base d mb n' ((putX x dir (cpN dir op) ([] : List Int)).delete cp).2 p dir cp segs (op + 1) A B B' aa ac) := (HC3.out.grown (gb_drew (World.grownBy.refl _ _))).del d2 d3 d1
      obtain ⟨hW5, _⟩ := HC3.out.row
      have x0 := hW5.cells.1
      have x2 := hW5.cells.2.2.1
      have HX : Hid (delAll (putX x dir (cpN dir op) ([] : List Int)) [cp] = ((putX x dir (cpN dir op) ([] : List Int)).delete cp).2) := rfl
      rw [q0, Bool.not_false]
      clear d1 d2 d3 hW5
      go_wp2_with fail
      go_region_held3 (fun W => W.cell? ⟨p, 0, none⟩ = some (.pointer (some ⟨d, 0, none⟩)) ∧ W.cell? ⟨p, 2, none⟩ = some (.string cp)) (go_keep) (first
        | (go_at_call 91; refine HDL.out.mono ?_; rintro e w5 ⟨rfl, n5, B5, hn5, hC5⟩; have HC5 : Hid (CutAt w w5 base d mb n5 ((putX x dir (cpN dir op) ([] : List Int)).delete cp).2 p dir cp segs (op + 1) A B B5 aa ac) := hC5; obtain ⟨hW6, _⟩ := hC5.row; have x0' := hW6.cells.1; have x2' := hW6.cells.2.2.1; clear hC5 hW6)
        | (go_at_call 52; refine (HD0 _).mono ?_; rintro e w6 ⟨rfl, rfl⟩))
      all_goals (go_wp2_with fail; go_meet)
      all_goals exact ⟨n5, B5, by omega, by rw [if_neg hcp0, HX.out]; exact HC5.out⟩
  case rest =>
    obtain ⟨n4, B4, hn4, hC4⟩ := hcut
    obtain ⟨hW5, hr5, hc5, ha5⟩ := hC4.row
    have x2 := hW5.cells.2.2.1
    have z2 := hW5.frozen 2
    have HC5 : Hid (CutAt w (wc.setCell ⟨p, 2, none⟩ (.string (cpN dir op))) base d mb n4 (delAll (putX x dir (cpN dir op) ([] : List Int)) (if cp = ⟨#[]⟩ then [] else [cp])) p dir (cpN dir op) segs (op + 1) A B B4 aa ac) := hC4.set ((hW5.set 2 _).congr (five rfl rfl rfl rfl rfl)) hr5 hc5 ha5
    have HDEL2 : Hid (DelOk (delAll (putX x dir (cpN dir op) ([] : List Int)) (if cp = ⟨#[]⟩ then [] else [cp])) (segs.map (segN dir))) := DelOk.app _ _ _ HDEL.out
    have HCX : Hid (cutX x dir cp segs op ([] : List Int) = delAll (delAll (putX x dir (cpN dir op) ([] : List Int)) (if cp = ⟨#[]⟩ then [] else [cp])) (segs.map (segN dir))) := by
      show _ = _
      unfold cutX
      exact delAll_app _ _ _
    obtain ⟨X, eX⟩ : ∃ X, X = delAll (putX x dir (cpN dir op) ([] : List Int)) (if cp = ⟨#[]⟩ then [] else [cp]) := ⟨_, rfl⟩
    rw [← eX] at HC5 HDEL2 HCX
    clear hC4 hW5 hr5 hc5 ha5 eX HDEL HC3
    go_wp2_with fail
    go_loopw [41] (fun t41 wr => ∃ i n6 B6 a6 k6, i ≤ segs.length ∧ n6 ≤ n + 2 ∧ CutAt w wr base d mb n6 (delAll X ((segs.take i).map (segN dir))) p dir (cpN dir op) (segs.drop i) (op + 1) A B B6 a6 k6) (fun _ wr => leftN wr p)
    case atStart => exact ⟨0, n4, B4, aa, ac, Nat.zero_le _, hn4, by simpa [delAll] using HC5.out⟩
    case round =>
      obtain ⟨i, n6, B6, a6, k6, hi, hn6, hC6⟩ := hrel
      have HC6 : Hid (CutAt w wr base d mb n6 (delAll X ((segs.take i).map (segN dir))) p dir (cpN dir op) (segs.drop i) (op + 1) A B B6 a6 k6) := hC6
      obtain ⟨hW6, hr6, hc6, ha6⟩ := hC6.row
      have x3 := hW6.cells.2.2.2.1
      clear HC5
      by_cases hlt : i < segs.length
      · obtain ⟨k, hk⟩ : ∃ k, segs[i]? = some k := ⟨_, List.getElem?_eq_getElem hlt⟩
        have hdrop : segs.drop i = k :: segs.drop (i + 1) := by
          rw [List.drop_eq_getElem_cons hlt]
          congr 1
          rw [List.getElem?_eq_getElem hlt] at hk
          exact Option.some.inj hk
        have htk : (segs.take (i + 1)).map (segN dir) = (segs.take i).map (segN dir) ++ [segN dir k] := by rw [List.take_add_one, hk]; simp
        have HTK : Hid (delAll X ((segs.take (i + 1)).map (segN dir)) = ((delAll X ((segs.take i).map (segN dir))).delete (segN dir k)).2) := by show _ = _; rw [htk, delAll_snoc]
        have hdo : DelOk (delAll X ((segs.take i).map (segN dir))) ((segs.drop i).map (segN dir)) := by
          refine DelOk.app _ _ _ ?_
          rw [← List.map_append, List.take_append_drop]
          exact HDEL2.out
        rw [hdrop] at hdo
        obtain ⟨d1, d2, d3, _⟩ := hdo
        have hk8 := HS8.out k (List.mem_of_getElem? hk)
        obtain ⟨R, eR⟩ : ∃ R, R = (segs.drop (i + 1)).length := ⟨_, rfl⟩
        have hlen6 : (segs.drop i).length = R + 1 := by rw [hdrop, eR]; rfl
        obtain ⟨b, off, rfl, hcell⟩ := nI_cell hr6 (l := segs.drop i) (i := 0) (k := k) (by rw [hdrop]; rfl)
        rw [hlen6] at x3 hc6
        have hR : R ≤ 4194304 := by rw [eR, List.length_drop]; omega
        have hsl : ∀ W : World, (Instr.slice 75 (.slice (some ⟨b, off, none⟩) (R + 1) k6) (some (.int .i64 1)) none none).run Tryz.prog W = .ok (.slice (some (if k6 = 1 then ⟨b, off, none⟩ else ⟨b, off + 1, none⟩)) R (k6 - 1)) W := fun W => tail75n W b off R k6 hc6
        have HTr := (HT.out.step HC6.out.step HF.out).1
        have HGD : Hid (wr.grownBy wr.drew none) := gb_drew (World.grownBy.refl _ _)
        have HSG : Hid (Calls Tryz.prog 54 #[.pointer (some ⟨p, 0, none⟩), .int .i64 (k : Int)] wr.drew fun e w' => e = .returned (.string (segN dir k)) ∧ wr.drew.grownBy w' none) := w_segment p d dir (cpN dir op) _ _ k hk8 _ (by omega) (HTr.grown HGD.out) (hW6.kept HGD.out (by simp))
        have HDL : Hid (∀ w1, wr.grownBy w1 none → Calls Tryz.prog 91 #[.pointer (some ⟨d, 0, none⟩), .string (segN dir k)] w1 fun e w' => e = .returned (.int .i64 0) ∧ ∃ n' B', n' ≤ n6 ∧ CutAt w w' base d mb n' (delAll X ((segs.take (i + 1)).map (segN dir))) p dir (cpN dir op) (segs.drop i) (op + 1) A B B' (some ⟨b, off, none⟩) k6) := fun w1 hg => by
          rw [HTK.out]
          exact (HC6.out.grown hg).del d2 d3 d1
        have x0 := hW6.cells.1
        have HW6 : Hid (WRow wr p d dir (cpN dir op) (.slice (some ⟨b, off, none⟩) (segs.drop i).length k6) ((op + 1 : Nat) : Int)) := hW6
        have hdl : segs.drop i = k :: segs.drop (i + 1) := hdrop
        have HX3 : Hid (∀ w5 n5 B5, CutAt w w5 base d mb n5 (delAll X ((segs.take (i + 1)).map (segN dir))) p dir (cpN dir op) (segs.drop i) (op + 1) A B B5 (some ⟨b, off, none⟩) k6 → w5.cell? ⟨p, 0, none⟩ = some (.pointer (some ⟨d, 0, none⟩)) ∧ w5.cell? ⟨p, 3, none⟩ = some (.slice (some ⟨b, off, none⟩) (R + 1) k6) ∧ w5.cell? ⟨b, off, none⟩ = some (.int .i64 (k : Int)) ∧ w5.frozen? ⟨p, 3, none⟩ = false) := fun w5 n5 B5 h5 => by
          obtain ⟨hW7, hr7, hc7, ha7⟩ := h5.row
          obtain ⟨b', off', e', hcell'⟩ := nI_cell hr7 (l := segs.drop i) (i := 0) (k := k) (by rw [hdl]; rfl)
          cases e'
          simp only [Nat.add_zero] at hcell'
          rw [← hlen6]
          exact ⟨hW7.cells.1, hW7.cells.2.2.2.1, hcell', hW7.frozen 3⟩
        have HFIN : Hid (∀ w5 n5 B5, CutAt w w5 base d mb n5 (delAll X ((segs.take (i + 1)).map (segN dir))) p dir (cpN dir op) (segs.drop i) (op + 1) A B B5 (some ⟨b, off, none⟩) k6 → CutAt w (w5.setCell ⟨p, 3, none⟩ (.slice (some (if k6 = 1 then ⟨b, off, none⟩ else ⟨b, off + 1, none⟩)) R (k6 - 1))) base d mb n5 (delAll X ((segs.take (i + 1)).map (segN dir))) p dir (cpN dir op) (segs.drop (i + 1)) (op + 1) A B B5 (some (if k6 = 1 then ⟨b, off, none⟩ else ⟨b, off + 1, none⟩)) (k6 - 1)) := fun w5 n5 B5 h5 => by
          obtain ⟨hW7, hr7, hc7, ha7⟩ := h5.row
          have hr8 : SRd intE w5 (some ⟨b, off, none⟩) ((k : Int) :: nI (segs.drop (i + 1))) := by
            have e : nI (segs.drop i) = (k : Int) :: nI (segs.drop (i + 1)) := by rw [hdl]; rfl
            rw [← e]
            exact hr7
          refine h5.set ?_ (srd_tail hr8 k6 (by rw [nI_len, ← eR]; exact hc6)) (by rw [← eR]; omega) (fun y hy => ?_)
          · have := hW7.set 3 (.slice (some (if k6 = 1 then ⟨b, off, none⟩ else ⟨b, off + 1, none⟩)) R (k6 - 1))
            rw [← eR]
            exact this.congr (five rfl rfl rfl rfl rfl)
          · have h9 := ha7 ⟨b, off, none⟩ rfl
            have e := Option.some.inj hy
            subst e
            split
            · exact h9
            · exact ⟨h9.1, h9.2.1, h9.2.2.1, rfl⟩
        have HLF : Hid (leftN wr p = R + 1) := by show _ = _; rw [HC6.out.left, hlen6]
        have HERR : Hid (R = (segs.drop (i + 1)).length) := eR
        simp only [Nat.add_zero] at hcell
        clear hC6 hW6 hr6 ha6 hk hdrop hdl htk d1 d2 d3 hk8 HTr eR hlen6 HTK
        go_wp2_with fail
        go_region_held3 (fun W => W.cell? ⟨p, 0, none⟩ = some (.pointer (some ⟨d, 0, none⟩)) ∧ W.cell? ⟨p, 3, none⟩ = some (.slice (some ⟨b, off, none⟩) (R + 1) k6) ∧ W.cell? ⟨b, off, none⟩ = some (.int .i64 (k : Int))) (go_keep) (first
          | (go_at_call 54; refine HSG.out.mono ?_; rintro e w1 ⟨rfl, hg1⟩; have HG1 : Hid (wr.grownBy w1 none) := HGD.out.trans hg1; have x0' : w1.cell? ⟨p, 0, none⟩ = some (.pointer (some ⟨d, 0, none⟩)) := HG1.out.cell x0 (by simp); have x3' : w1.cell? ⟨p, 3, none⟩ = some (.slice (some ⟨b, off, none⟩) (R + 1) k6) := HG1.out.cell x3 (by simp); have xc' : w1.cell? ⟨b, off, none⟩ = some (.int .i64 (k : Int)) := HG1.out.cell hcell (by simp); clear hg1)
          | (go_at_call 91; refine (HDL.out _ HG1.out).mono ?_; rintro e w5 ⟨rfl, n5, B5, hn5, hC5⟩; have HC5 : Hid (CutAt w w5 base d mb n5 (delAll X ((segs.take (i + 1)).map (segN dir))) p dir (cpN dir op) (segs.drop i) (op + 1) A B B5 (some ⟨b, off, none⟩) k6) := hC5; obtain ⟨x0'', x3'', xc'', z3''⟩ := HX3.out _ _ _ hC5; clear hC5)
          | (go_at_call 52; refine (HD0 _).mono ?_; rintro e w6 ⟨rfl, rfl⟩))
        go_wp2
        go_roundw
        case rel => exact ⟨i + 1, n5, B5, _, _, by omega, by omega, HFIN.out _ _ _ HC5.out⟩
        case measure =>
          rw [(HFIN.out _ _ _ HC5.out).left, HLF.out, ← HERR.out]
          omega
      · have hii : i = segs.length := by omega
        have hl0 : (segs.drop i).length = 0 := by rw [List.length_drop]; omega
        rw [hl0] at x3
        have HFIN : Hid (CutEnd w base d mb (n + 2) (cutX x dir cp segs op ([] : List Int)) A B wr) := by
          refine ⟨n6, B6, hn6, ?_, HC6.out.step, HC6.out.apart, HC6.out.ltB⟩
          rw [HCX.out]
          have := HC6.out.disk
          rw [hii, List.take_length] at this
          exact this
        clear hC6 hW6 hr6 hc6 ha6 hii hl0
        go_wp2
        go_end0
        exact ⟨rfl, HFIN.out⟩
theorem w_frames0 (p : Nat) (ka : Option Addr) (kc : Nat) (w : World) (P : Ending → World → Prop) (hend : Calls Tryz.prog 43 #[.func (.func 57) #[] #[.pointer (some ⟨w.heap.size, 0, none⟩), .pointer (some ⟨w.heap.size + 1, 0, none⟩)]] ((w.alloc (.cells #[.pointer (some ⟨p, 0, none⟩)] 36)).alloc (.cells #[.slice none 0 0] 27)) P) (hP : ∀ e w1, P e w1 → ∃ c, e = .returned (.int .i64 c)) :
    Calls Tryz.prog 23 #[.pointer (some ⟨p, 0, none⟩), .slice ka 0 kc] w P := by
  have HP : Hid (∀ e w1, P e w1 → ∃ c, e = .returned (.int .i64 c)) := hP
  have hmf : ∀ (fn : Fn) (first cap : Array Value) (w : World), (Instr.makeFunc fn first cap).run Tryz.prog w = .ok (.func fn first cap) w := fun _ _ _ _ => rfl
  obtain ⟨W2, eW2⟩ : ∃ W2, W2 = (w.alloc (.cells #[.pointer (some ⟨p, 0, none⟩)] 36)).alloc (.cells #[.slice none 0 0] 27) := ⟨_, rfl⟩
  rw [← eW2] at hend
  have HE : Hid (Calls Tryz.prog 43 #[.func (.func 57) #[] #[.pointer (some ⟨w.heap.size, 0, none⟩), .pointer (some ⟨w.heap.size + 1, 0, none⟩)]] W2 P) := hend
  have EW2 : Hid (W2 = (w.alloc (.cells #[.pointer (some ⟨p, 0, none⟩)] 36)).alloc (.cells #[.slice none 0 0] 27)) := eW2
  clear hend hP eW2
  go_enter Tryz.func23, Tryz.ntmps23
  go_wp2_with fail
  rw [← EW2.out]
  go_loopw [12] (fun t12 wr => t12 = .int .i64 0 ∧ wr = W2) (fun _ _ => 0)
  case atStart => exact ⟨rfl, rfl⟩
  case round =>
    obtain ⟨rfl, rfl⟩ := hrel
    go_wp2_with fail
    refine HE.out.mono ?_
    intro e w9 hp9
    obtain ⟨c9, rfl⟩ := HP.out e w9 hp9
    have HP9 : Hid (P (.returned (.int .i64 c9)) w9) := hp9
    clear hp9 HE
    go_wp2
    exact HP9.out
set_option maxHeartbeats 4000000 in
theorem w_cutCN (ka : Option Addr) (kc : Nat) (base d mb n : Nat) (x : DSt) (p : Nat) (dir cp : ByteArray) (segs : List Nat) (op : Nat) (A B : Nat → Prop) (w : World) (hdir : dirB dir = true) (ht : Tab w) (hf : Far A B) (h : LogAt w base d mb n x p dir cp segs op A B) (hc : x.Calm) (hw : x.wn ≤ 999999980) (hop : op < 99999998) (hn : n < 1048574) (hnew : x.V (newN dir) = none) (hsg : segs.length ≤ 4194304) (hs8 : ∀ k ∈ segs, k < 100000000) (hcp : cp.size ≤ 64) (hdel : DelOk (putX x dir (cpN dir op) ([] : List Int)) ((if cp = ⟨#[]⟩ then [] else [cp]) ++ segs.map (segN dir))) (hb : base ≤ w.heap.size) :
    Calls Tryz.prog 23 #[.pointer (some ⟨p, 0, none⟩), .slice ka 0 kc] w fun e w' => e = .returned (.int .i64 0) ∧ CutEnd w base d mb (n + 2) (cutX x dir cp segs op ([] : List Int)) A B w' := by
  refine w_frames0 p ka kc w (fun e w' => e = .returned (.int .i64 0) ∧ CutEnd w base d mb (n + 2) (cutX x dir cp segs op ([] : List Int)) A B w') ?_ (fun e w1 hp => ⟨0, hp.1⟩)
  obtain ⟨w1, ew1⟩ : ∃ w1, w1 = (w.alloc (.cells #[.pointer (some ⟨p, 0, none⟩)] 36)).alloc (.cells #[.slice none 0 0] 27) := ⟨_, rfl⟩
  have hgr : w.grownBy w1 none := by rw [ew1]; exact (World.grownBy_alloc w _ none).trans (World.grownBy_alloc _ _ none)
  have hhd : w1.rowIs w.heap.size 36 1 (fun _ => .pointer (some ⟨p, 0, none⟩)) := by rw [ew1]; exact (row1 w (.pointer (some ⟨p, 0, none⟩)) 36).alloc _
  have hrow : w1.rowIs (w.heap.size + 1) 27 1 (fun _ => .slice none 0 0) := by
    rw [ew1]
    have := row1 (w.alloc (.cells #[.pointer (some ⟨p, 0, none⟩)] 36)) (.slice none 0 0) 27
    have hs1 : (w.alloc (.cells #[.pointer (some ⟨p, 0, none⟩)] 36)).heap.size = w.heap.size + 1 := Array.size_push _
    rw [hs1] at this
    exact this
  rw [← ew1]
  obtain ⟨W4, eW4⟩ : ∃ W4, W4 = w1.alloc (.cells #[.int .i64 0] 37) := ⟨_, rfl⟩
  have hg14 : w1.grownBy W4 none := by rw [eW4]; exact World.grownBy_alloc _ _ none
  have hgw4 := hgr.trans hg14
  have hz4 : W4.heap.size = w1.heap.size + 1 := by rw [eW4]; exact Array.size_push _
  have hs4 : W4.rowIs w1.heap.size 37 1 (fun _ => .int .i64 0) := by rw [eW4]; exact row1 w1 (.int .i64 0) 37
  have hold2 : ∀ k, w.heap.size ≤ k → ¬ A k ∧ ¬ B k := fun k hk => ⟨fun ha => by have := h.ltA k ha; omega, fun hb => by have := h.ltB k hb; omega⟩
  have hsl := hrow.lt
  have HC := w_caught57 #[.pointer (some ⟨w.heap.size, 0, none⟩), .pointer (some ⟨w.heap.size + 1, 0, none⟩)] (fun w2 => CutEnd W4 base d mb (n + 2) (cutX x dir cp segs op ([] : List Int)) A B w2) w1 (by
    rw [← eW4]
    refine (w_cut1 p w.heap.size (w.heap.size + 1) (.slice none 0 0) W4 (fun w2 => CutEnd W4 base d mb (n + 2) (cutX x dir cp segs op ([] : List Int)) A B w2) (hg14.cell (hhd.cell (i := 0) (by omega)) (by simp)) (hg14.cell (hrow.cell (i := 0) (by omega)) (by simp)) (w_cutN base d mb n x p dir cp segs op A B W4 hdir (ht.grown hgw4) hf (h.grown hgw4) hc hw hop hn hnew hsg hs8 hcp hdel (Nat.le_trans hb hgw4.size))).mono ?_
    rintro e w2 ⟨rfl, hce⟩
    refine ⟨rfl, hce, ?_⟩
    obtain ⟨n', B', _, _, h3, _⟩ := hce
    have hs5 := hs4.of_block (h3.kept.block _ hs4.lt (fun h => h.elim (hold2 _ (by omega)).1 (hold2 _ (by omega)).2))
    exact ⟨hs5.cell (i := 0) (by omega), hs5.frozen 0⟩)
  refine HC.mono ?_
  rintro e w3 ⟨rfl, w2, ⟨n', B', h1, h2, h3, h4, h5⟩, rfl⟩
  have hg : w2.grownBy (w2.setCell ⟨w1.heap.size, 0, none⟩ (.int .i64 0)) (some w1.heap.size) := gb_set rfl
  have hk2 : Kept w2 (w2.setCell ⟨w1.heap.size, 0, none⟩ (.int .i64 0)) (fun k => k = w1.heap.size) := Kept.of hg (fun k hk => by cases hk; rfl)
  refine ⟨rfl, n', B', h1, h2.others hk2 (fun k hb e => ?_), ((Step2.grown A B hgw4).trans h3).cell (by omega), h4, fun k hb => Nat.lt_of_lt_of_le (h5 k hb) hg.size⟩
  subst e
  exact (hold2 _ (by omega)).2 (h3.oldB _ (by rw [hz4]; omega) hb)
set_option maxHeartbeats 8000000 in
theorem w_putF (base d mb n : Nat) (x : DSt) (p : Nat) (dir cp name : ByteArray) (segs : List Nat) (op : Nat) (A B : Nat → Prop) (a : Option Addr) (M cd : Nat) (w : World) (hdir : dirB dir = true) (h : LogAt w base d mb n x p dir cp segs op A B) (hc : x.Calm) (hn : n < 1048576) (hnew : x.V (newN dir) = none) (hM : 4194304 < M) :
    Calls Tryz.prog 100 #[.pointer (some ⟨p, 0, none⟩), .string name, .slice a M cd] w fun e w' => e = .panicked (thrown 63) ∧ w.grownBy w' none := by
  have hds : dir.size ≤ 32 := by simp only [dirB, Bool.and_eq_true, decide_eq_true_eq] at hdir; exact hdir.2
  have hnm := new_name hdir
  have HDP := fun w => w_doneP 63 (by decide) w
  have HGD : ∀ W : World, W.grownBy W.drew none := fun W => gb_drew (World.grownBy.refl _ _)
  have HDR : Hid (∀ w1, w.grownBy w1 none → Calls Tryz.prog 92 #[.pointer (some ⟨p, 0, none⟩)] w1 fun e w' => e = .returned (.string (newN dir)) ∧ w1 = w') := fun w1 hg => by
    obtain ⟨a1, c1, hW, _⟩ := (h.grown hg).wal
    exact w_draft p d dir cp _ _ w1 (by omega) hW
  have HAP : Hid (∀ w1, w.grownBy w1 none → Calls Tryz.prog 27 #[.pointer (some ⟨d, 0, none⟩), .string (newN dir), .slice a M cd] w1 fun e w' => e = .returned (.int .i64 63) ∧ w1.grownBy w' none) := fun w1 hg => x_appendFull base d mb n x B (newN dir) a M cd w1 (h.grown hg).disk hc.on hnm hn hnew hM
  obtain ⟨a1, c1, hW, _⟩ := h.wal
  have c0 := hW.cells.1
  clear h hW
  go_enter Tryz.func100, Tryz.ntmps100
  go_wp2_with fail
  refine wp_region_held_drew (S := fun W => W.cell? ⟨p, 0, none⟩ = some (.pointer (some ⟨d, 0, none⟩))) (by kernel_rfl) (by go_keep) (fun hHeld => ?_)
  refine wpAnyH_take (i := 0) (v := .pointer (some ⟨p, 0, none⟩)) rfl (by kernel_rfl) (by kernel_rfl) (by kernel_rfl) (fun _ _ _ h => h) (Or.inl ⟨by rfl, fun w hSw => ?_⟩) (by assumption) ?_
  · go_simp
  refine wpAnyH_take (i := 1) (v := .pointer (some ⟨p, 0, none⟩)) rfl (by kernel_rfl) (by kernel_rfl) (by kernel_rfl) (fun _ _ _ h => h) (Or.inl ⟨by rfl, fun w hSw => ?_⟩) (by assumption) ?_
  · go_simp
  refine wpAnyH_take (i := 2) (v := .pointer (some ⟨p, 0, none⟩)) rfl (by kernel_rfl) (by kernel_rfl) (by kernel_rfl) (fun _ _ _ h => h) (Or.inl ⟨by rfl, fun w hSw => ?_⟩) (by assumption) ?_
  · go_simp
  refine wpAnyH_take (i := 3) (v := .pointer (some ⟨d, 0, none⟩)) rfl (by kernel_rfl) (by kernel_rfl) (by kernel_rfl) (fun _ _ _ h => h) (Or.inl ⟨by rfl, fun w hSw => ?_⟩) (by assumption) ?_
  · go_simp
  refine wpAnyH_take (i := 4) (v := .pointer (some ⟨p, 0, none⟩)) rfl (by kernel_rfl) (by kernel_rfl) (by kernel_rfl) (fun _ _ _ h => h) (Or.inl ⟨by rfl, fun w hSw => ?_⟩) (by assumption) ?_
  · go_simp
  refine wpAnyH_take (i := 6) (v := .slice a M cd) rfl (by kernel_rfl) (by kernel_rfl) (by kernel_rfl) (fun _ _ _ h => h) (Or.inl ⟨by rfl, fun w hSw => ?_⟩) (by assumption) ?_
  · go_simp
  refine wpAnyH_ready (rs := [5]) (by kernel_rfl) (by simp) (AllReadyH.cons (i := 5) rfl (fun K hK => ?_) AllReadyH.nil)
  go_simp
  refine (HDR.out _ (HGD w)).mono ?_
  rintro e w1 ⟨rfl, rfl⟩
  refine hK.out _ _ (by go_keep) (fun hHeld => ?_)
  clear hK K
  refine wpAnyH_ready (rs := [7]) (by kernel_rfl) (by simp) (AllReadyH.cons (i := 7) rfl (fun K hK => ?_) AllReadyH.nil)
  go_simp
  refine (HAP.out _ (HGD w)).mono ?_
  rintro e w2 ⟨rfl, hg2⟩
  have HG2 : Hid (w.grownBy w2 none) := (HGD w).trans hg2
  have c02 : w2.cell? ⟨p, 0, none⟩ = some (.pointer (some ⟨d, 0, none⟩)) := HG2.out.cell c0 (by simp)
  clear hg2
  refine hK.out _ _ (by go_keep) (fun hHeld => ?_)
  clear hK K
  refine wpAnyH_ready (rs := [8]) (by kernel_rfl) (by simp) (AllReadyH.cons (i := 8) rfl (fun K hK => ?_) AllReadyH.nil)
  go_simp
  refine (HDP _).mono ?_
  rintro e w3 ⟨rfl, rfl⟩
  exact ⟨rfl, rfl, HG2.out⟩
set_option maxHeartbeats 4000000 in
theorem w_cutF (base d mb n : Nat) (x : DSt) (p : Nat) (dir cp : ByteArray) (segs : List Nat) (op : Nat) (A B : Nat → Prop) (a : Option Addr) (M cd : Nat) (w : World) (hdir : dirB dir = true) (ht : Tab w) (h : LogAt w base d mb n x p dir cp segs op A B) (hc : x.Calm) (hop : op < 99999998) (hn : n < 1048576) (hnew : x.V (newN dir) = none) (hM : 4194304 < M) :
    Calls Tryz.prog 58 #[.pointer (some ⟨p, 0, none⟩), .slice a M cd] w fun e w' => e = .panicked (thrown 63) ∧ w.grownBy w' none := by
  have hds : dir.size ≤ 32 := by simp only [dirB, Bool.and_eq_true, decide_eq_true_eq] at hdir; exact hdir.2
  have HL : Hid (LogAt w base d mb n x p dir cp segs op A B) := h
  obtain ⟨a1, c, hW, _⟩ := h.wal
  have c4 := hW.cells.2.2.2.2
  have HCN : Hid (Calls Tryz.prog 99 #[.pointer (some ⟨p, 0, none⟩), .int .i64 (op : Int)] w fun e w' => e = .returned (.string (cpN dir op)) ∧ w.grownBy w' none) := w_cpoint p d dir cp _ _ op (by omega) w (by omega) ht hW
  have HPT : Hid (∀ w1, w.grownBy w1 none → Calls Tryz.prog 100 #[.pointer (some ⟨p, 0, none⟩), .string (cpN dir op), .slice a M cd] w1 fun e w' => e = .panicked (thrown 63) ∧ w1.grownBy w' none) := fun w1 hg => w_putF base d mb n x p dir cp (cpN dir op) segs op A B a M cd w1 hdir (HL.out.grown hg) hc hn hnew hM
  clear h hW ht hdir hnew
  go_enter Tryz.func58, Tryz.ntmps58
  go_wp2_with fail
  refine HCN.out.mono ?_
  rintro e w1 ⟨rfl, hg1⟩
  have HG1 : Hid (w.grownBy w1 none) := hg1
  clear hg1
  go_wp2_with fail
  refine (HPT.out _ HG1.out).mono ?_
  rintro e w2 ⟨rfl, hg2⟩
  have HG2 : Hid (w.grownBy w2 none) := HG1.out.trans hg2
  clear hg2
  unfold thrown
  go_wp2
  exact ⟨rfl, rfl, HG2.out⟩
set_option maxHeartbeats 4000000 in
theorem w_caughtP57 (caps : Array Value) (x : Int) (P : World → Prop) (w : World)
    (hcl : Calls Tryz.prog 57 caps (w.alloc (.cells #[.int .i64 0] 37)) fun e w' => e = .panicked (thrown x) ∧ P w' ∧ w'.cell? ⟨w.heap.size, 0, none⟩ = some (.int .i64 0) ∧ w'.frozen? ⟨w.heap.size, 0, none⟩ = false) :
    Calls Tryz.prog 43 #[.func (.func 57) #[] caps] w fun e w' => e = .returned (.int .i64 x) ∧ ∃ w1, P w1 ∧ w' = w1.setCell ⟨w.heap.size, 0, none⟩ (.int .i64 x) := by
  have hmf : ∀ (fn : Fn) (first cap : Array Value) (w : World), (Instr.makeFunc fn first cap).run Tryz.prog w = .ok (.func fn first cap) w := fun _ _ _ _ => rfl
  go_enter_defers Tryz.func43, Tryz.ntmps43
  go_wp2_with fail
  refine hcl.mono ?_
  rintro e w1 ⟨rfl, hp, hc, hz⟩
  have HP : Hid (P w1) := hp
  clear hp hcl
  unfold thrown
  go_wp2
  refine leaves_cons (f := 89) (args := #[.pointer (some ⟨w.heap.size, 0, none⟩)]) (by simp) (by simp [go_sem]) ?_
  refine (w_catch w.heap.size x [] _ hc hz).mono ?_
  rintro e u' w'' ⟨rfl, rfl, rfl⟩
  have hcs : (w1.setCell ⟨w.heap.size, 0, none⟩ (.int .i64 x)).cell? ⟨w.heap.size, 0, none⟩ = some (.int .i64 x) := World.cell?_setCell_same' w1 _ _ (by rw [hc]; rfl)
  simp [Go.Leaves, settle, results, Tryz.results43, go_sem, hcs]
  exact ⟨w1, HP.out, rfl⟩
set_option maxHeartbeats 4000000 in
theorem w_cut1P (p q s : Nat) (fv : Value) (w : World) (P : World → Prop) (hq : w.cell? ⟨q, 0, none⟩ = some (.pointer (some ⟨p, 0, none⟩))) (hs : w.cell? ⟨s, 0, none⟩ = some fv) (hm : Calls Tryz.prog 58 #[.pointer (some ⟨p, 0, none⟩), fv] w fun e w' => e = .panicked (thrown 63) ∧ P w') :
    Calls Tryz.prog 57 #[.pointer (some ⟨q, 0, none⟩), .pointer (some ⟨s, 0, none⟩)] w fun e w' => e = .panicked (thrown 63) ∧ P w' := by
  have HM : Hid (Calls Tryz.prog 58 #[.pointer (some ⟨p, 0, none⟩), fv] w fun e w' => e = .panicked (thrown 63) ∧ P w') := hm
  clear hm
  go_enter Tryz.func57, Tryz.ntmps57
  go_wp2_with fail
  refine HM.out.mono ?_
  rintro e w1 ⟨rfl, hp⟩
  have HP : Hid (P w1) := hp
  clear hp HM
  unfold thrown
  go_wp2
  exact ⟨rfl, rfl, HP.out⟩
set_option maxHeartbeats 8000000 in
theorem w_framesB (p q s : Nat) (ka : Option Addr) (kn kc : Nat) (ts : List Sl) (recs : List (List Int)) (w : World) (hk : KeepIs w ka ts recs) (hn : recs.length = kn) (hb : (logB frameR recs).length ≤ 1073741824) (hkn : kn ≤ 4194304) (P : Ending → World → Prop) (hend : ∀ w1, FrAt w w1 p (w.heap.size + 1) (logB frameR recs) → Calls Tryz.prog 43 #[.func (.func 57) #[] #[.pointer (some ⟨w.heap.size, 0, none⟩), .pointer (some ⟨w.heap.size + 1, 0, none⟩)]] w1 P) (hP : ∀ e w1, P e w1 → ∃ c, e = .returned (.int .i64 c)) :
    Calls Tryz.prog 23 #[.pointer (some ⟨p, 0, none⟩), .slice ka kn kc] w P := by
  have HK : Hid (KeepIs w ka ts recs) := hk
  have HN : Hid (recs.length = kn) := hn
  have HE : Hid (∀ w1, FrAt w w1 p (w.heap.size + 1) (logB frameR recs) → Calls Tryz.prog 43 #[.func (.func 57) #[] #[.pointer (some ⟨w.heap.size, 0, none⟩), .pointer (some ⟨w.heap.size + 1, 0, none⟩)]] w1 P) := hend
  have HP : Hid (∀ e w1, P e w1 → ∃ c, e = .returned (.int .i64 c)) := hP
  have HBD : Hid ((logB frameR recs).length ≤ 1073741824) := hb
  have hmf : ∀ (fn : Fn) (first cap : Array Value) (w : World), (Instr.makeFunc fn first cap).run Tryz.prog w = .ok (.func fn first cap) w := fun _ _ _ _ => rfl
  obtain ⟨W2, eW2⟩ : ∃ W2, W2 = (w.alloc (.cells #[.pointer (some ⟨p, 0, none⟩)] 36)).alloc (.cells #[.slice none 0 0] 27) := ⟨_, rfl⟩
  have hs1 : ∀ (w : World) o, (w.alloc o).heap.size = w.heap.size + 1 := fun w o => Array.size_push _
  have HF0 : Hid (FrAt w W2 p (w.heap.size + 1) (logB frameR (recs.take 0))) := by
    rw [eW2]
    refine ⟨⟨none, 0, ?_, SOwn.nil 5 _ _⟩, by simp [logB], (World.grownBy_alloc w _ none).trans (World.grownBy_alloc _ _ none), rfl, (row1 w (.pointer (some ⟨p, 0, none⟩)) 36).alloc _⟩
    have := row1 (w.alloc (.cells #[.pointer (some ⟨p, 0, none⟩)] 36)) (.slice none 0 0) 27
    rw [hs1] at this
    exact this
  have EW2 : Hid (W2 = (w.alloc (.cells #[.pointer (some ⟨p, 0, none⟩)] 36)).alloc (.cells #[.slice none 0 0] 27)) := eW2
  clear hk hn hend hP hb eW2 hs1
  go_enter Tryz.func23, Tryz.ntmps23
  go_wp2_with fail
  rw [← EW2.out]
  go_loopw [12] (fun t12 wr => ∃ i : Nat, i ≤ kn ∧ t12 = .int .i64 i ∧ FrAt w wr p (w.heap.size + 1) (logB frameR (recs.take i))) (fun t12 _ => kn - (intOf t12).toNat)
  case atStart => exact ⟨0, Nat.zero_le _, rfl, HF0.out⟩
  case round =>
    obtain ⟨i, hi, rfl, hF⟩ := hrel
    have HF : Hid (FrAt w wr p (w.heap.size + 1) (logB frameR (recs.take i))) := hF
    by_cases hlt : i < kn
    · have hii : (i : Int) < (kn : Int) := by omega
      have hkl := HK.out.2.1
      have hnn := HN.out
      obtain ⟨r, hr⟩ : ∃ r, recs[i]? = some r := ⟨_, List.getElem?_eq_getElem (by omega)⟩
      obtain ⟨t, ht⟩ : ∃ t, ts[i]? = some t := ⟨_, List.getElem?_eq_getElem (by omega)⟩
      have hKr := HK.out.grown hF.grown
      obtain ⟨kb, koff, rfl, hkc⟩ := hKr.1.at (by omega)
      have a0 : wr.cell? ⟨kb, koff + i, none⟩ = some (.slice t.1 t.2.1 t.2.2) := by have h := hkc i _ 0 _ ht rfl; simpa [slE, slV] using h
      obtain ⟨h1, h2, h3, h4⟩ := hKr.2.2 i t r ht hr
      have hfl : flist r = frameR r := by unfold flist; rw [if_neg (by omega)]
      have hfc : fcode r = 0 := by unfold fcode; rw [if_neg (by omega)]
      have HFR : Hid (Calls Tryz.prog 25 #[.slice t.1 t.2.1 t.2.2] wr fun e w' => ∃ v N c, e = .returned (.tuple #[.slice v N c, .int .i64 0]) ∧ Out wr w' v N c (frameR r) ∧ wr.grownBy w' none) := f_frame t.1 r t.2.1 t.2.2 (frameR r) 0 wr h2 h1.symm h3 (by omega) hfl hfc
      have HT : Hid (logB frameR (recs.take (i + 1)) = logB frameR (recs.take i) ++ frameR r) := logB_take recs i r hr
      have hsum : (logB frameR (recs.take i)).length + (frameR r).length ≤ 1073741824 := by
        have h5 := HBD.out
        rw [logB_split recs i r hr] at h5
        simp only [List.length_append] at h5
        omega
      clear hKr hkc ht hr h1 h2 h3 h4 hfl hfc hkl hnn hF
      go_wp2_with fail
      refine HFR.out.mono ?_
      rintro e w1 ⟨fv, FN, fc, rfl, hout, hg1⟩
      obtain ⟨⟨fa, fcc, hrow, hso⟩, hby, hgr, hold, hhd⟩ := HF.out
      have hrow1 := hrow.of_block (hg1.block _ hrow.lt (by simp))
      obtain ⟨L, eL⟩ : ∃ L, L = (logB frameR (recs.take i)).length := ⟨_, rfl⟩
      rw [← eL] at hrow1 hso hsum
      have y0 : w1.cell? ⟨w.heap.size + 1, 0, none⟩ = some (.slice fa L fcc) := hrow1.cell (i := 0) (by omega)
      have HSO : Hid (SOwn byteE 5 w1 (w.heap.size + 1 + 1) (.slice fa L fcc) L (logB frameR (recs.take i))) := SOwn.kept hso hg1 (by cases fa <;> simp [Value.ownBlock])
      have HFL : Hid ((frameR r).length = FN) := hout.1
      have HRD : Hid (SRd byteE w1 fv (frameR r)) := rd_srd hout.2.1
      have HFN : Hid (fv = none → fc = 0) := hout.2.2.1
      have hFN2 : L + FN ≤ 1073741824 := by rw [← hout.1]; exact hsum
      have hsz : w.heap.size + 1 + 1 ≤ w1.heap.size := by have := hrow1.lt; omega
      have HSTEP : Hid (∀ (v3 : Value) (w3 : World), SOwn byteE 5 w3 (w.heap.size + 1 + 1) v3 (L + FN) (logB frameR (recs.take i) ++ frameR r) → w1.grownBy w3 (Value.ownBlock (.slice fa L fcc)) → ∃ a3 k3, v3 = .slice a3 (L + FN) k3 ∧ w3.cell? ⟨w.heap.size + 1, 0, none⟩ = some (.slice fa L fcc) ∧ w3.frozen? ⟨w.heap.size + 1, 0, none⟩ = false ∧ FrAt w (w3.setCell ⟨w.heap.size + 1, 0, none⟩ (.slice a3 (L + FN) k3)) p (w.heap.size + 1) (logB frameR (recs.take (i + 1)))) := fun v3 w3 ho3 hg3 => by
        obtain ⟨a3, k3, rfl⟩ := sownSl ho3
        have hne : some (w.heap.size + 1) ≠ Value.ownBlock (.slice fa L fcc) := ownNe HSO.out (Nat.lt_succ_self _)
        have hr3 := hrow1.of_block (hg3.block _ hrow1.lt hne)
        have hgs : w3.grownBy (w3.setCell ⟨w.heap.size + 1, 0, none⟩ (.slice a3 (L + FN) k3)) (some (w.heap.size + 1)) := gb_set rfl
        have el : (logB frameR (recs.take (i + 1))).length = L + FN := by rw [HT.out, List.length_append, ← eL, HFL.out]
        refine ⟨a3, k3, rfl, hr3.cell (i := 0) (by omega), hr3.frozen 0, ⟨a3, k3, ?_, ?_⟩, ?_, ?_, hold, ?_⟩
        · rw [el]
          exact (hr3.set 0 (.slice a3 (L + FN) k3)).congr (fun j hj => by have h0 : j = 0 := by omega
                                                                          subst h0; rfl)
        · rw [el, HT.out]
          exact SOwn.kept ho3 hgs (.inr (fun e => ownNe ho3 (Nat.lt_succ_self _) e.symm))
        · rw [HT.out]
          intro z hz
          rcases List.mem_append.1 hz with h | h
          · exact hby z h
          · exact hout.2.1.2 z h
        · exact gb_trans (gb_trans (hgr.trans hg1) hg3 (fun k hk => .inl (by have := (HSO.out.block k hk).1; omega))) hgs (fun k hk => .inl (by cases hk; omega))
        · exact (((hhd.of_block (hg1.block _ hhd.lt (by simp))).of_block (hg3.block _ (Nat.lt_of_lt_of_le hhd.lt hg1.size) (ownNe HSO.out (by omega)))).setOther (a := ⟨w.heap.size + 1, 0, none⟩) (by show w.heap.size ≠ w.heap.size + 1; omega) _)
      clear hhd hout hg1 hrow hso hby hgr hold hrow1 eL HFR HF
      go_wp2_with (at_builtin; refine wpList_append_s byteET rfl (.tmp 23) (.tmp 24) rfl (w.heap.size + 1 + 1) (.slice fa L fcc) L (logB frameR (recs.take i)) rfl HSO.out fv (frameR r) FN fc rfl HFL.out HRD.out HFN.out (by omega) (by unfold maxLen; omega) hsz ?_; intro v3 w3 ho3 hg3 hn3; obtain ⟨a3, k3, rfl, y3, z3, hfr⟩ := HSTEP.out v3 w3 ho3 hg3; have HFR3 : Hid (FrAt w (w3.setCell ⟨w.heap.size + 1, 0, none⟩ (.slice a3 (L + FN) k3)) p (w.heap.size + 1) (logB frameR (recs.take (i + 1)))) := hfr; clear ho3 hg3 hn3 hfr)
      go_roundw
      case rel => exact ⟨i + 1, by omega, by go_num, HFR3.out⟩
      case measure => simp [intOf]; omega
    · have hii : ¬ (i : Int) < (kn : Int) := by omega
      have hF2 : FrAt w wr p (w.heap.size + 1) (logB frameR recs) := by
        have h5 := HF.out
        rw [List.take_of_length_le (by rw [HN.out]; omega)] at h5
        exact h5
      have HC : Hid (Calls Tryz.prog 43 #[.func (.func 57) #[] #[.pointer (some ⟨w.heap.size, 0, none⟩), .pointer (some ⟨w.heap.size + 1, 0, none⟩)]] wr P) := HE.out wr hF2
      clear hF hF2
      go_wp2_with fail
      refine HC.out.mono ?_
      intro e w9 hp9
      obtain ⟨c9, rfl⟩ := HP.out e w9 hp9
      have HP9 : Hid (P (.returned (.int .i64 c9)) w9) := hp9
      clear hp9 HC
      go_wp2
      exact HP9.out
/-- Cut, of more than a file holds: nothing is done. -/
theorem w_cutCF (base d mb n : Nat) (x : DSt) (p : Nat) (dir cp : ByteArray) (segs : List Nat) (op : Nat) (A B : Nat → Prop) (ka : Option Addr) (kn kc : Nat) (ts : List Sl) (recs : List (List Int)) (w : World) (hdir : dirB dir = true) (ht : Tab w) (h : LogAt w base d mb n x p dir cp segs op A B) (hc : x.Calm) (hop : op < 99999998) (hn : n < 1048576) (hnew : x.V (newN dir) = none) (hk : KeepIs w ka ts recs) (hkn : recs.length = kn) (hk4 : kn ≤ 4194304) (hlen : (logB frameR recs).length ≤ 1073741824) (hbig : 4194304 < (logB frameR recs).length) :
    Calls Tryz.prog 23 #[.pointer (some ⟨p, 0, none⟩), .slice ka kn kc] w fun e w' => e = .returned (.int .i64 63) ∧ w.grownBy w' none := by
  refine w_framesB p 0 0 ka kn kc ts recs w hk hkn hlen hk4 (fun e w' => e = .returned (.int .i64 63) ∧ w.grownBy w' none) (fun w1 hF => ?_) (fun e w1 hp => ⟨63, hp.1⟩)
  obtain ⟨⟨fa, fc, hrow, hso⟩, hby, hgr, hold, hhd⟩ := hF
  obtain ⟨W4, eW4⟩ : ∃ W4, W4 = w1.alloc (.cells #[.int .i64 0] 37) := ⟨_, rfl⟩
  have hg14 : w1.grownBy W4 none := by rw [eW4]; exact World.grownBy_alloc _ _ none
  have hgw4 := hgr.trans hg14
  have hs4 : W4.rowIs w1.heap.size 37 1 (fun _ => .int .i64 0) := by rw [eW4]; exact row1 w1 (.int .i64 0) 37
  have HC := w_caughtP57 #[.pointer (some ⟨w.heap.size, 0, none⟩), .pointer (some ⟨w.heap.size + 1, 0, none⟩)] 63 (fun w2 => W4.grownBy w2 none) w1 (by
    rw [← eW4]
    refine (w_cut1P p w.heap.size (w.heap.size + 1) (.slice fa (logB frameR recs).length fc) W4 (fun w2 => W4.grownBy w2 none) (hg14.cell (hhd.cell (i := 0) (by omega)) (by simp)) (hg14.cell (hrow.cell (i := 0) (by omega)) (by simp)) (w_cutF base d mb n x p dir cp segs op A B fa (logB frameR recs).length fc W4 hdir (ht.grown hgw4) (h.grown hgw4) hc hop hn hnew hbig)).mono ?_
    rintro e w2 ⟨rfl, hg2⟩
    have hs5 := hs4.of_block (hg2.block _ hs4.lt (by simp))
    exact ⟨rfl, hg2, hs5.cell (i := 0) (by omega), hs5.frozen 0⟩)
  refine HC.mono ?_
  rintro e w3 ⟨rfl, w2, hg2, rfl⟩
  exact ⟨rfl, gb_trans (hgw4.trans hg2) (gb_set rfl) (fun k hk => .inl (by cases hk; exact hgr.size))⟩
end Go.Proofs.YtekejnjaiccnbaaGreatDoor

