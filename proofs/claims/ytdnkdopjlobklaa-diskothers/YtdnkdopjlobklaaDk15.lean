/- Package disk: Rename, done. -/
import Derived.Test.YtdnkdopjlobklaaDk14
namespace Go.Proofs.Ytdnkdopjlobklaa
open Go.RowKit Go.Maps
set_option linter.unusedVariables false
set_option maxRecDepth 20000

/-- A file has another name. -/
theorem DiskIs.moved {w w' : World} {base d mb n n' b : Nat} {off set : Bool} {ah kp wn : Int} {F : ByteArray → Option Nat} {G : Nat → FD} {s t : ByteArray} (h : DiskIs w base d mb n off set ah kp wn F G) (hs : F s = some b) (hm : MapIs w' mb n' (setF (setF F s none) t (some b))) (hk : Kept w w' (fun k => k = mb)) :
    DiskIs w' base d mb n' off set ah kp wn (setF (setF F s none) t (some b)) G := by
  have hdm : d ≠ mb := map_ne h.row h.map
  have hold : ∀ x c, setF (setF F s none) t (some b) x = some c → (x = t ∧ c = b) ∨ (x ≠ t ∧ x ≠ s ∧ F x = some c) := by
    intro x c hx
    by_cases e : x = t
    · subst e; rw [setF_same] at hx; exact .inl ⟨rfl, (Option.some.inj hx).symm⟩
    · rw [setF_other _ _ e] at hx
      by_cases e' : x = s
      · subst e'; rw [setF_same] at hx; cases hx
      · rw [setF_other _ _ e'] at hx; exact .inr ⟨e, e', hx⟩
  have hsrc : ∀ x c, setF (setF F s none) t (some b) x = some c → ∃ y, F y = some c := by
    intro x c hx
    rcases hold x c hx with ⟨_, rfl⟩ | ⟨_, _, h3⟩
    · exact ⟨s, hs⟩
    · exact ⟨x, h3⟩
  refine ⟨h.row.of_block (hk.block d h.row.lt hdm), hm, fun x c hx => ?_, fun x y c hx hy => ?_, fun x y c c' hx hy hne => ?_, h.hd, h.hmb⟩
  · obtain ⟨y, hy⟩ := hsrc x c hx
    have hl := h.lt y c hy
    exact ⟨FIs.stay (h.file y c hy).1 (hk.block c hl.1 hl.2.2) (fun z hz => hk.block z.block (h.slc hy hz).2.1 (h.slc hy hz).2.2.2.1), (h.file y c hy).2⟩
  · rcases hold x c hx with ⟨rfl, rfl⟩ | ⟨h1, h2, h3⟩
    · rcases hold y c hy with ⟨rfl, _⟩ | ⟨k1, k2, k3⟩
      · rfl
      · exact absurd (h.inj y s c k3 hs) k2
    · rcases hold y c hy with ⟨rfl, rfl⟩ | ⟨k1, k2, k3⟩
      · exact absurd (h.inj x s c h3 hs) h2
      · exact h.inj x y c h3 k3
  · obtain ⟨x', hx'⟩ := hsrc x c hx
    obtain ⟨y', hy'⟩ := hsrc y c' hy
    exact h.apart x' y' c c' hx' hy' hne
set_option maxHeartbeats 4000000 in
theorem d_ren1 (base d mb n b B3 B4 B5 p : Nat) (off set : Bool) (ah kp wn : Int) (F : ByteArray → Option Nat) (G : Nat → FD) (s t : ByteArray) (w : World) (h : DiskIs w base d mb n off set ah kp wn F G) (hs : F s = some b) (hss : s.size ≤ 64) (hst : t.size ≤ 64) (hn : n ≤ 1048576)
    (hB3 : w.rowIs B3 23 1 (fun _ => .pointer (some ⟨d, 0, none⟩))) (hB4 : w.rowIs B4 9 1 (fun _ => .string s)) (hB5 : w.rowIs B5 9 1 (fun _ => .string t)) (hp : w.rowIs p 64 1 (fun _ => .pointer (some ⟨b, 0, none⟩))) :
    Calls Try.prog 52 #[.pointer (some ⟨B3, 0, none⟩), .pointer (some ⟨B4, 0, none⟩), .pointer (some ⟨p, 0, none⟩), .pointer (some ⟨B5, 0, none⟩)] w fun e w' => e = .returned (.tuple #[]) ∧ DiskIs w' base d mb (n + 1) off set ah kp wn (setF (setF F s none) t (some b)) G ∧ Kept w w' (fun k => k = mb) := by
  obtain ⟨c0, c1, c2, c3, c4, c5⟩ := h.row.cells
  have p3 : w.cell? ⟨B3, 0, none⟩ = some (.pointer (some ⟨d, 0, none⟩)) := hB3.cell (i := 0) (by omega)
  have p4 : w.cell? ⟨B4, 0, none⟩ = some (.string s) := hB4.cell (i := 0) (by omega)
  obtain ⟨w1, hdel, hm1, hg1⟩ := h.drew.map.del s hss 0
  obtain ⟨w2, hput, hm2, hg2⟩ := (hm1.kept (gb_drew (World.grownBy.refl w1 none)) (by simp)).put t hst hn b
  have hk1 : Kept w w1 (fun k => k = mb) := Kept.of (show w.grownBy w1 (some mb) from ⟨hg1.os, hg1.tape, hg1.output, hg1.size, hg1.block⟩) (fun k hk => by cases hk; rfl)
  have hk2 : Kept w w2 (fun k => k = mb) := hk1.trans (Kept.of (show w1.grownBy w2 (some mb) from ⟨hg2.os, hg2.tape, hg2.output, hg2.size, hg2.block⟩) (X := fun k => k = mb) (fun k hk => by cases hk; rfl)) (fun k _ hk => hk)
  have HE : Hid (DiskIs w2 base d mb (n + 1) off set ah kp wn (setF (setF F s none) t (some b)) G ∧ Kept w w2 (fun k => k = mb)) := ⟨h.moved hs hm2 hk2, hk2⟩
  have hdm : d ≠ mb := map_ne h.row h.map
  have q3 : w1.cell? ⟨B3, 0, none⟩ = some (.pointer (some ⟨d, 0, none⟩)) := kept_cell hk1 p3 (map_ne hB3 h.map)
  have q0 : w1.cell? ⟨d, 0, none⟩ = some (.map (some mb)) := kept_cell hk1 c0 hdm
  have q5 : w1.cell? ⟨B5, 0, none⟩ = some (.string t) := kept_cell hk1 (hB5.cell (i := 0) (by omega)) (map_ne hB5 h.map)
  have qp : w1.cell? ⟨p, 0, none⟩ = some (.pointer (some ⟨b, 0, none⟩)) := kept_cell hk1 (hp.cell (i := 0) (by omega)) (map_ne hp h.map)
  clear h hs hB3 hB4 hB5 hp hm1 hm2 hg1 hg2 hk1 hk2 c1 c2 c3 c4 c5
  go_enter Try.func52, Try.ntmps52
  go_wp2_with fail
  go_region
  all_goals go_wp2_with fail
  all_goals go_region
  all_goals go_wp2
  all_goals go_end0
  all_goals exact ⟨rfl, HE.out.1, HE.out.2⟩
theorem v_rename (base d mb n : Nat) (ah kp wn : Int) (V : Cont) (B : Nat → Prop) (s t : ByteArray) (Z : List Int) (Y : Nat) (w : World) (h : DV w base d mb n false false ah kp wn V B) (hns : nameB s = true) (hnt : nameB t = true) (hs : V s = some (Z, Y)) (hn : n ≤ 1048576) (hw : 0 ≤ wn ∧ wn ≤ 1000000000) :
    Calls Try.prog 25 #[.pointer (some ⟨d, 0, none⟩), .string s, .string t] w fun e w' => e = .returned (.int .i64 0) ∧ DV w' base d mb (n + 1) false false ah kp (wn + 1) (setV (setV V s none) t (some (Z, Y))) B ∧ Step w w' B B := by
  obtain ⟨F, G, hd, hv, hB⟩ := h
  obtain ⟨b, hF, hZ, hY⟩ : ∃ b, F s = some b ∧ (G b).zs = Z ∧ (G b).syn = Y := by
    rw [hv s] at hs
    cases hF : F s with
    | none => rw [hF] at hs; cases hs
    | some b => rw [hF] at hs; simp only [Option.map_some, Option.some.injEq, Prod.mk.injEq] at hs; exact ⟨b, rfl, hs.1, hs.2⟩
  obtain ⟨hg, r3, r4, r5, _⟩ := box4_facts w d s t
  refine (v_renameBy base d mb n b false ah kp wn F G s t (fun c w' => c = 0 ∧ DV w' base d mb (n + 1) false false ah kp (wn + 1) (setV (setV V s none) t (some (Z, Y))) B ∧ Step w w' B B) w hd hns hnt hF ?_).mono ?_
  · intro W p hgW hp
    have hdW := hd.kept (hg.trans hgW)
    refine (d_writeGo52 base d mb n false false ah kp wn F G _ (fun w' => DV w' base d mb (n + 1) false false ah kp (wn + 1) (setV (setV V s none) t (some (Z, Y))) B ∧ Step w w' B B) W hdW hw ?_).mono ?_
    · intro w1 h1 hk1
      have k3 : W.rowIs w.heap.size 23 1 (fun _ => .pointer (some ⟨d, 0, none⟩)) := r3.of_block (hgW.block _ r3.lt (by simp))
      have k4 : W.rowIs (w.heap.size + 1) 9 1 (fun _ => .string s) := r4.of_block (hgW.block _ r4.lt (by simp))
      have k5 : W.rowIs (w.heap.size + 1 + 1) 9 1 (fun _ => .string t) := r5.of_block (hgW.block _ r5.lt (by simp))
      refine (d_ren1 base d mb n b _ _ _ p false false ah kp (wn + 1) F G s t w1 h1 hF (nameB_size hns) (nameB_size hnt) hn (k3.of_block (hk1.block _ k3.lt (row_ne k3 hdW.row (by decide)))) (k4.of_block (hk1.block _ k4.lt (row_ne k4 hdW.row (by decide)))) (k5.of_block (hk1.block _ k5.lt (row_ne k5 hdW.row (by decide)))) (hp.of_block (hk1.block _ hp.lt (row_ne hp hdW.row (by decide))))).mono ?_
      rintro e w' ⟨rfl, hd', hk'⟩
      refine ⟨rfl, ⟨_, G, hd', fun x => ?_, fun k hk => ?_⟩, ((Step.grown B (hg.trans hgW)).trans ⟨hk1.mono (fun k _ hk => hB k (.inl hk)), fun k _ hk => hk⟩).trans ⟨hk'.mono (fun k _ hk => hB k (.inr (.inl hk))), fun k _ hk => hk⟩⟩
      · by_cases e : x = t
        · subst e; rw [setV_same, setF_same, Option.map_some, hZ, hY]
        · rw [setV_other _ _ e, setF_other _ _ e]
          by_cases e' : x = s
          · subst e'; rw [setV_same, setF_same]; rfl
          · rw [setV_other _ _ e', setF_other _ _ e']; exact hv x
      · rcases hk with e | e | ⟨x, c, hx, e⟩
        · exact hB k (.inl e)
        · exact hB k (.inr (.inl e))
        · have : ∃ y, F y = some c := by
            by_cases e1 : x = t
            · subst e1; rw [setF_same] at hx; obtain rfl := Option.some.inj hx; exact ⟨s, hF⟩
            · rw [setF_other _ _ e1] at hx
              by_cases e2 : x = s
              · subst e2; rw [setF_same] at hx; cases hx
              · rw [setF_other _ _ e2] at hx; exact ⟨x, hx⟩
          obtain ⟨y, hy⟩ := this
          exact hB k (.inr (.inr ⟨y, c, hy, e⟩))
    · rintro e w' ⟨rfl, hP⟩
      exact ⟨0, rfl, rfl, hP⟩
  · rintro e w' ⟨c, rfl, rfl, hP⟩
    exact ⟨rfl, hP⟩
end Go.Proofs.Ytdnkdopjlobklaa
