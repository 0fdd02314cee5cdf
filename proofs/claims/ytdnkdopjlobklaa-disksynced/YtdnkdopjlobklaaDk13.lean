/- Package disk: Rename. -/
import Derived.Test.YtdnkdopjlobklaaDk12
namespace Go.Proofs.Ytdnkdopjlobklaa
open Go.RowKit Go.Maps
set_option linter.unusedVariables false
set_option maxRecDepth 20000

def box4 (w : World) (d : Nat) (s t : ByteArray) : World := (((w.alloc (.cells #[.pointer (some ⟨d, 0, none⟩)] 23)).alloc (.cells #[.string s] 9)).alloc (.cells #[.string t] 9)).alloc (.cells #[.string s, .string t] 9)
theorem box4_facts (w : World) (d : Nat) (s t : ByteArray) : w.grownBy (box4 w d s t) none ∧ (box4 w d s t).rowIs w.heap.size 23 1 (fun _ => .pointer (some ⟨d, 0, none⟩)) ∧ (box4 w d s t).rowIs (w.heap.size + 1) 9 1 (fun _ => .string s) ∧ (box4 w d s t).rowIs (w.heap.size + 1 + 1) 9 1 (fun _ => .string t) ∧ SRd strE (box4 w d s t) (some ⟨w.heap.size + 1 + 1 + 1, 0, none⟩) [s, t] := by
  have hs1 : ∀ (w : World) o, (w.alloc o).heap.size = w.heap.size + 1 := fun w o => Array.size_push _
  have g1 := World.grownBy_alloc w (.cells #[.pointer (some ⟨d, 0, none⟩)] 23) none
  have g2 := World.grownBy_alloc (w.alloc (.cells #[.pointer (some ⟨d, 0, none⟩)] 23)) (.cells #[.string s] 9) none
  have g3 := World.grownBy_alloc ((w.alloc (.cells #[.pointer (some ⟨d, 0, none⟩)] 23)).alloc (.cells #[.string s] 9)) (.cells #[.string t] 9) none
  have g4 := World.grownBy_alloc (((w.alloc (.cells #[.pointer (some ⟨d, 0, none⟩)] 23)).alloc (.cells #[.string s] 9)).alloc (.cells #[.string t] 9)) (.cells #[.string s, .string t] 9) none
  refine ⟨g1.trans (g2.trans (g3.trans g4)), ?_, ?_, ?_, ?_⟩
  · have r := World.rowIs_alloc w #[.pointer (some ⟨d, 0, none⟩)] 23 (fun _ => .pointer (some ⟨d, 0, none⟩)) (one_cell _)
    exact r.of_block ((g2.trans (g3.trans g4)).block w.heap.size r.lt (by simp))
  · have r := World.rowIs_alloc (w.alloc (.cells #[.pointer (some ⟨d, 0, none⟩)] 23)) #[.string s] 9 (fun _ => .string s) (one_cell _)
    rw [hs1] at r
    exact r.of_block ((g3.trans g4).block _ r.lt (by simp))
  · have r := World.rowIs_alloc ((w.alloc (.cells #[.pointer (some ⟨d, 0, none⟩)] 23)).alloc (.cells #[.string s] 9)) #[.string t] 9 (fun _ => .string t) (one_cell _)
    rw [hs1, hs1] at r
    exact r.of_block (g4.block _ r.lt (by simp))
  · have r := slit (((w.alloc (.cells #[.pointer (some ⟨d, 0, none⟩)] 23)).alloc (.cells #[.string s] 9)).alloc (.cells #[.string t] 9)) [s, t]
    rw [hs1, hs1, hs1] at r
    exact r
set_option maxHeartbeats 4000000 in
theorem v_renameBy (base d mb n b : Nat) (set : Bool) (ah kp wn : Int) (F : ByteArray → Option Nat) (G : Nat → FD) (s t : ByteArray) (R : Int → World → Prop) (w : World) (h : DiskIs w base d mb n false set ah kp wn F G) (hns : nameB s = true) (hnt : nameB t = true) (hs : F s = some b)
    (hw : ∀ W p, (box4 w d s t).grownBy W none → W.rowIs p 64 1 (fun _ => .pointer (some ⟨b, 0, none⟩)) → Calls Try.prog 45 #[.pointer (some ⟨d, 0, none⟩), .bool false, .func (.func 52) #[] #[.pointer (some ⟨w.heap.size, 0, none⟩), .pointer (some ⟨w.heap.size + 1, 0, none⟩), .pointer (some ⟨p, 0, none⟩), .pointer (some ⟨w.heap.size + 1 + 1, 0, none⟩)]] W fun e w' => ∃ c, e = .returned (.int .i64 c) ∧ R c w') :
    Calls Try.prog 25 #[.pointer (some ⟨d, 0, none⟩), .string s, .string t] w fun e w' => ∃ c, e = .returned (.int .i64 c) ∧ R c w' := by
  obtain ⟨hg, r3, r4, r5, hsl⟩ := box4_facts w d s t
  have hss := nameB_size hns
  have hst := nameB_size hnt
  have hd4 := h.kept hg
  have HRC : Hid (Calls Try.prog 43 #[.pointer (some ⟨d, 0, none⟩), .slice (some ⟨w.heap.size + 1 + 1 + 1, 0, none⟩) 2 2] (box4 w d s t) fun e w' => e = .returned (.int .i64 0) ∧ (box4 w d s t) = w') := by
    have := d_reach d mb false set ah kp wn _ [s, t] 2 2 _ hd4.row hsl rfl (by omega) (by intro x hx; simp only [List.mem_cons, List.mem_nil_iff, or_false] at hx; rcases hx with rfl | rfl <;> omega)
    rw [show reachC false [s, t] = 0 by simp [reachC, hns, hnt]] at this
    exact this
  have HF : Hid (Calls Try.prog 47 #[.pointer (some ⟨d, 0, none⟩), .string s] (box4 w d s t) fun e w' => e = .returned (.tuple #[.pointer (some ⟨b, 0, none⟩), .int .i64 0]) ∧ (box4 w d s t).grownBy w' none ∧ w'.cell? ⟨w.heap.size, 0, none⟩ = some (.pointer (some ⟨d, 0, none⟩)) ∧ w.heap.size < w'.heap.size) := by
    have := d_find d mb n false set ah kp wn F s (box4 w d s t) hd4.row hd4.map (by omega)
    rw [show findP false F s = some b by simp [findP, hns, hs], show findC false F s = 0 by simp [findC, hns, hs]] at this
    refine this.mono ?_
    rintro e w' ⟨rfl, hg'⟩
    exact ⟨rfl, hg', hg'.cell (r3.cell (i := 0) (by omega)) (by simp), Nat.lt_of_lt_of_le r3.lt hg'.size⟩
  have HW : Hid (∀ W p, (box4 w d s t).grownBy W none → W.rowIs p 64 1 (fun _ => .pointer (some ⟨b, 0, none⟩)) → Calls Try.prog 45 #[.pointer (some ⟨d, 0, none⟩), .bool false, .func (.func 52) #[] #[.pointer (some ⟨w.heap.size, 0, none⟩), .pointer (some ⟨w.heap.size + 1, 0, none⟩), .pointer (some ⟨p, 0, none⟩), .pointer (some ⟨w.heap.size + 1 + 1, 0, none⟩)]] W fun e w' => ∃ c, e = .returned (.int .i64 c) ∧ R c w') := hw
  unfold box4 at HRC HF HW
  clear h hg r3 r4 r5 hsl hw hd4 hs
  go_enter Try.func25, Try.ntmps25
  go_wp2_with fail
  refine HRC.out.mono ?_
  rintro e w' ⟨rfl, rfl⟩
  go_wp2_with fail
  refine HF.out.mono ?_
  rintro e w5 ⟨rfl, hg5, c5, hl5⟩
  have HG5 : Hid (((((w.alloc (.cells #[.pointer (some ⟨d, 0, none⟩)] 23)).alloc (.cells #[.string s] 9)).alloc (.cells #[.string t] 9)).alloc (.cells #[.string s, .string t] 9)).grownBy w5 none) := hg5
  have hne : w.heap.size ≠ w5.heap.size := by omega
  clear hg5
  go_wp2_with fail
  have hga := World.grownBy_alloc w5 (.cells #[.pointer (some ⟨b, 0, none⟩)] 64) none
  have hrow := World.rowIs_alloc w5 #[.pointer (some ⟨b, 0, none⟩)] 64 (fun _ => .pointer (some ⟨b, 0, none⟩)) (one_cell _)
  refine (HW.out _ w5.heap.size (HG5.out.trans hga) hrow).mono ?_
  rintro e w' ⟨c, rfl, hR⟩
  have HR : Hid (R c w') := hR
  clear hR hga hrow
  go_wp2
  go_ret
  exact ⟨c, rfl, HR.out⟩
theorem v_renameLost (base d mb n : Nat) (kp wn : Int) (V : Cont) (B : Nat → Prop) (s t : ByteArray) (Z : List Int) (Y : Nat) (w : World) (h : DV w base d mb n false true 0 kp wn V B) (hns : nameB s = true) (hnt : nameB t = true) (hs : V s = some (Z, Y)) (hw : 0 ≤ wn ∧ wn ≤ 1000000000) (hk : -9223372036854775808 ≤ kp ∧ kp ≤ 9223372036854775807) :
    Calls Try.prog 25 #[.pointer (some ⟨d, 0, none⟩), .string s, .string t] w fun e w' => e = .returned (.int .i64 60) ∧ DV w' base d mb n true false 0 0 (wn + 1) (fun t => (V t).map (cutV kp)) B ∧ Step w w' B B := by
  obtain ⟨F, G, hd, hv, hB⟩ := h
  obtain ⟨b, hF⟩ : ∃ b, F s = some b := by
    rw [hv s] at hs
    cases hF : F s with
    | none => rw [hF] at hs; cases hs
    | some b => exact ⟨b, rfl⟩
  obtain ⟨hg, _⟩ := box4_facts w d s t
  refine (v_renameBy base d mb n b true 0 kp wn F G s t (fun c w' => c = 60 ∧ DV w' base d mb n true false 0 0 (wn + 1) (fun t => (V t).map (cutV kp)) B ∧ Step w w' B B) w hd hns hnt hF ?_).mono ?_
  · intro W p hgW hp
    refine (d_writeLost base d mb n false kp wn F G _ W (hd.kept (hg.trans hgW)) hw hk).mono ?_
    rintro e w' ⟨rfl, hd', hk'⟩
    obtain ⟨h1, h2⟩ := DV.cut (off := false) (set := true) (ah := 0) (kp := kp) (wn := wn) hd' hv hB hk'
    exact ⟨60, rfl, rfl, h1, (Step.grown B (hg.trans hgW)).trans h2⟩
  · rintro e w' ⟨c, rfl, rfl, hP⟩
    exact ⟨rfl, hP⟩
theorem v_listOff (d mb : Nat) (set : Bool) (ah kp wn : Int) (s : ByteArray) (w : World) (h : DRow w d mb true set ah kp wn) : Calls Try.prog 27 #[.pointer (some ⟨d, 0, none⟩), .string s] w fun e w' => e = .returned (.slice none 0 0) ∧ w.grownBy w' none := by
  obtain ⟨c0, c1, c2, c3, c4, c5⟩ := h.cells
  clear h c0 c2 c3 c4 c5
  go_enter Try.func27, Try.ntmps27
  go_wp2
  go_ret
  exact ⟨rfl, by first | exact World.grownBy.refl _ _ | exact World.grownBy_alloc _ _ none⟩
end Go.Proofs.Ytdnkdopjlobklaa
