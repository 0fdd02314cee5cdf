/- Package disk: Sync. -/
import Derived.Test.YtdnkdopjlobklaaDk10
namespace Go.Proofs.Ytdnkdopjlobklaa
open Go.RowKit Go.Maps
set_option linter.unusedVariables false
set_option maxRecDepth 20000

theorem one_cell (u : Value) : ∀ i, i < (#[u] : Array Value).size → (#[u] : Array Value)[i]? = some u := by
  intro i hi
  obtain rfl : i = 0 := by simpa using hi
  rfl
theorem DiskIs.synced {w : World} {base d mb n b : Nat} {off set : Bool} {ah kp wn : Int} {F : ByteArray → Option Nat} {G : Nat → FD} {A : Option Addr} {C : Nat} {Z : List Int} {Y : Nat} {s : ByteArray} (h : DiskIs w base d mb n off set ah kp wn F G) (hG : G b = ⟨A, C, Z, Y⟩) (hs : F s = some b) :
    DiskIs (w.setCell ⟨b, 1, none⟩ (.int .i64 (Z.length : Nat))) base d mb n off set ah kp wn F (updG G b ⟨A, C, Z, Z.length⟩) ∧ Kept w (w.setCell ⟨b, 1, none⟩ (.int .i64 (Z.length : Nat))) (fun k => k = b) := by
  have hfile : FileIs w base b A C Z Y := by have := (h.file s b hs).1; rw [hG] at this; exact this
  have hgs : w.grownBy (w.setCell ⟨b, 1, none⟩ (.int .i64 (Z.length : Nat))) (some b) := gb_set rfl
  have hk : Kept w (w.setCell ⟨b, 1, none⟩ (.int .i64 (Z.length : Nat))) (fun k => k = b) := Kept.of hgs (fun k hk => by cases hk; rfl)
  have hlt := h.lt s b hs
  refine ⟨h.put hs hk (fun e => hlt.2.1 e.symm) (fun e => hlt.2.2 e.symm) (fun t b' ht hne => ⟨hne, fun x hx e => (h.slc ht hx).2.2.2.2 s b hs e⟩) ⟨?_, ?_, hfile.byte, Nat.le_refl _, hfile.len⟩ ?_, hk⟩
  · exact (hfile.row.set 1 _).congr (two rfl rfl)
  · exact SOwn.kept hfile.own hgs (.inr (sown_apart hfile.own hfile.row (by decide)))
  · intro t b' ht hne x y hx hy
    exact h.apart s t b b' hs ht (fun e => hne e.symm) x y (by rw [hG]; exact hx) hy
set_option maxHeartbeats 4000000 in
theorem d_sync1 (base d mb n b p : Nat) (off set : Bool) (ah kp wn : Int) (F : ByteArray → Option Nat) (G : Nat → FD) (A : Option Addr) (C : Nat) (Z : List Int) (Y : Nat) (s : ByteArray) (w : World) (h : DiskIs w base d mb n off set ah kp wn F G) (hG : G b = ⟨A, C, Z, Y⟩) (hs : F s = some b) (hp : w.cell? ⟨p, 0, none⟩ = some (.pointer (some ⟨b, 0, none⟩))) :
    Calls Try.prog 48 #[.pointer (some ⟨p, 0, none⟩)] w fun e w' => e = .returned (.tuple #[]) ∧ DiskIs w' base d mb n off set ah kp wn F (updG G b ⟨A, C, Z, Z.length⟩) ∧ Kept w w' (fun k => k = b) := by
  have hfile : FileIs w base b A C Z Y := by have := (h.file s b hs).1; rw [hG] at this; exact this
  obtain ⟨L, eL⟩ : ∃ L, L = Z.length := ⟨_, rfl⟩
  have b0 : w.cell? ⟨b, 0, none⟩ = some (.slice A L C) := by rw [eL]; exact hfile.row.cell (i := 0) (by omega)
  have b1 : w.cell? ⟨b, 1, none⟩ = some (.int .i64 Y) := hfile.row.cell (i := 1) (by omega)
  have f1 := hfile.row.frozen 1
  have hsy := h.synced hG hs
  rw [← eL] at hsy ⊢
  have HS : Hid (DiskIs (w.setCell ⟨b, 1, none⟩ (.int .i64 (L : Nat))) base d mb n off set ah kp wn F (updG G b ⟨A, C, Z, L⟩) ∧ Kept w (w.setCell ⟨b, 1, none⟩ (.int .i64 (L : Nat))) (fun k => k = b)) := hsy
  clear h hG hs hfile hsy eL
  go_enter Try.func48, Try.ntmps48
  go_wp2_with fail
  go_region
  all_goals go_wp2
  all_goals go_end0
  all_goals exact ⟨rfl, HS.out.1.drew, HS.out.2.os, HS.out.2.tape, HS.out.2.output, HS.out.2.size, HS.out.2.block⟩
set_option maxHeartbeats 4000000 in
theorem v_syncBy (base d mb n b : Nat) (set : Bool) (ah kp wn : Int) (F : ByteArray → Option Nat) (G : Nat → FD) (s : ByteArray) (R : Int → World → Prop) (w : World) (h : DiskIs w base d mb n false set ah kp wn F G) (hnm : nameB s = true) (hs : F s = some b)
    (hw : ∀ W p, w.grownBy W none → W.cell? ⟨p, 0, none⟩ = some (.pointer (some ⟨b, 0, none⟩)) → p ≠ d → Calls Try.prog 45 #[.pointer (some ⟨d, 0, none⟩), .bool false, .func (.func 48) #[] #[.pointer (some ⟨p, 0, none⟩)]] W fun e w' => ∃ c, e = .returned (.int .i64 c) ∧ R c w') :
    Calls Try.prog 17 #[.pointer (some ⟨d, 0, none⟩), .string s] w fun e w' => ∃ c, e = .returned (.int .i64 c) ∧ R c w' := by
  have hss := nameB_size hnm
  have HF : Hid (Calls Try.prog 47 #[.pointer (some ⟨d, 0, none⟩), .string s] w fun e w' => e = .returned (.tuple #[.pointer (some ⟨b, 0, none⟩), .int .i64 0]) ∧ w.grownBy w' none) := by
    have := d_find d mb n false set ah kp wn F s w h.row h.map (by omega)
    rw [show findP false F s = some b by simp [findP, hnm, hs], show findC false F s = 0 by simp [findC, hnm, hs]] at this
    exact this
  have hdl := h.row.lt
  have HW : Hid (∀ W p, w.grownBy W none → W.cell? ⟨p, 0, none⟩ = some (.pointer (some ⟨b, 0, none⟩)) → p ≠ d → Calls Try.prog 45 #[.pointer (some ⟨d, 0, none⟩), .bool false, .func (.func 48) #[] #[.pointer (some ⟨p, 0, none⟩)]] W fun e w' => ∃ c, e = .returned (.int .i64 c) ∧ R c w') := hw
  clear h hs hw
  go_enter Try.func17, Try.ntmps17
  go_wp2_with fail
  refine HF.out.mono ?_
  rintro e w1 ⟨rfl, hg1⟩
  have HG1 : Hid (w.grownBy w1 none) := hg1
  have hsz := hg1.size
  clear hg1
  go_wp2_with fail
  have hga := World.grownBy_alloc w1 (.cells #[.pointer (some ⟨b, 0, none⟩)] 64) none
  have hrow := World.rowIs_alloc w1 #[.pointer (some ⟨b, 0, none⟩)] 64 (fun _ => .pointer (some ⟨b, 0, none⟩)) (one_cell _)
  refine (HW.out _ w1.heap.size (HG1.out.trans hga) (hrow.cell (i := 0) (by simp)) (by omega)).mono ?_
  rintro e w' ⟨c, rfl, hR⟩
  have HR : Hid (R c w') := hR
  clear hR hga hrow
  go_wp2
  go_ret
  exact ⟨c, rfl, HR.out⟩
theorem kept_cell {w w' : World} {X : Nat → Prop} {p : Nat} {v : Value} (hk : Kept w w' X) (hp : w.cell? ⟨p, 0, none⟩ = some v) (hx : ¬ X p) : w'.cell? ⟨p, 0, none⟩ = some v := by
  have hbl := World.block_lt_of_cell? _ _ hp
  unfold World.cell? at hp ⊢
  rw [hk.block p hbl hx]
  exact hp
theorem v_sync (base d mb n : Nat) (ah kp wn : Int) (V : Cont) (B : Nat → Prop) (s : ByteArray) (Z : List Int) (Y : Nat) (w : World) (h : DV w base d mb n false false ah kp wn V B) (hnm : nameB s = true) (hs : V s = some (Z, Y)) (hw : 0 ≤ wn ∧ wn ≤ 1000000000) :
    Calls Try.prog 17 #[.pointer (some ⟨d, 0, none⟩), .string s] w fun e w' => e = .returned (.int .i64 0) ∧ ∃ B', DV w' base d mb n false false ah kp (wn + 1) (setV V s (some (Z, Z.length))) B' ∧ Step w w' B B' := by
  obtain ⟨F, G, hd, hv, hB⟩ := h
  obtain ⟨b, hF, hZ, hY⟩ : ∃ b, F s = some b ∧ (G b).zs = Z ∧ (G b).syn = Y := by
    rw [hv s] at hs
    cases hF : F s with
    | none => rw [hF] at hs; cases hs
    | some b => rw [hF] at hs; simp only [Option.map_some, Option.some.injEq, Prod.mk.injEq] at hs; exact ⟨b, rfl, hs.1, hs.2⟩
  have hG : G b = ⟨(G b).a, (G b).c, Z, Y⟩ := by rw [← hZ, ← hY]
  refine (v_syncBy base d mb n b false ah kp wn F G s (fun c w' => c = 0 ∧ ∃ B', DV w' base d mb n false false ah kp (wn + 1) (setV V s (some (Z, Z.length))) B' ∧ Step w w' B B') w hd hnm hF ?_).mono ?_
  · intro W p hg hp hpd
    refine (d_writeGo48 base d mb n false false ah kp wn F G _ (fun w' => ∃ B', DV w' base d mb n false false ah kp (wn + 1) (setV V s (some (Z, Z.length))) B' ∧ Step w w' B B') W (hd.kept hg) hw ?_).mono ?_
    · intro w1 h1 hk1
      refine (d_sync1 base d mb n b p false false ah kp (wn + 1) F G (G b).a (G b).c Z Y s w1 h1 hG hF (kept_cell hk1 hp hpd)).mono ?_
      rintro e w' ⟨rfl, hd', hk'⟩
      obtain ⟨B', h5, h6⟩ := DV.of (f := ⟨(G b).a, (G b).c, Z, Z.length⟩) (s := s) (b := b) hB hv hd' hF (updG_same _ _ _) (fun t ht => rfl) (fun t k ht hk => updG_other _ _ (fun e => ht (hd.inj t s b (by rw [← e]; exact hk) hF))) hk' (fun k hk => .inr (.inr ⟨s, b, hF, .inl hk⟩)) (fun hne => absurd hF hne) (fun x hx => .inl ⟨hF, hx⟩)
      exact ⟨rfl, B', h5, ((Step.grown B hg).trans ⟨hk1.mono (fun k _ hk => hB k (.inl hk)), fun k _ hk => hk⟩).trans h6⟩
    · rintro e w' ⟨rfl, hP⟩
      exact ⟨0, rfl, rfl, hP⟩
  · rintro e w' ⟨c, rfl, rfl, hP⟩
    exact ⟨rfl, hP⟩
theorem v_syncLost (base d mb n : Nat) (kp wn : Int) (V : Cont) (B : Nat → Prop) (s : ByteArray) (Z : List Int) (Y : Nat) (w : World) (h : DV w base d mb n false true 0 kp wn V B) (hnm : nameB s = true) (hs : V s = some (Z, Y)) (hw : 0 ≤ wn ∧ wn ≤ 1000000000) (hk : -9223372036854775808 ≤ kp ∧ kp ≤ 9223372036854775807) :
    Calls Try.prog 17 #[.pointer (some ⟨d, 0, none⟩), .string s] w fun e w' => e = .returned (.int .i64 60) ∧ DV w' base d mb n true false 0 0 (wn + 1) (fun t => (V t).map (cutV kp)) B ∧ Step w w' B B := by
  obtain ⟨F, G, hd, hv, hB⟩ := h
  obtain ⟨b, hF⟩ : ∃ b, F s = some b := by
    rw [hv s] at hs
    cases hF : F s with
    | none => rw [hF] at hs; cases hs
    | some b => exact ⟨b, rfl⟩
  refine (v_syncBy base d mb n b true 0 kp wn F G s (fun c w' => c = 60 ∧ DV w' base d mb n true false 0 0 (wn + 1) (fun t => (V t).map (cutV kp)) B ∧ Step w w' B B) w hd hnm hF ?_).mono ?_
  · intro W p hg hp hpd
    refine (d_writeLost base d mb n false kp wn F G _ W (hd.kept hg) hw hk).mono ?_
    rintro e w' ⟨rfl, hd', hk'⟩
    obtain ⟨h1, h2⟩ := DV.cut (off := false) (set := true) (ah := 0) (kp := kp) (wn := wn) hd' hv hB hk'
    exact ⟨60, rfl, rfl, h1, (Step.grown B hg).trans h2⟩
  · rintro e w' ⟨c, rfl, rfl, hP⟩
    exact ⟨rfl, hP⟩
end Go.Proofs.Ytdnkdopjlobklaa
