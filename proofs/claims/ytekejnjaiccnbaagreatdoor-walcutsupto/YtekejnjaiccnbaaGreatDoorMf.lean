/- Several texts in one: Dk13, Dk14, Dk15. -/
import Derived.Test.YtekejnjaiccnbaaGreatDoorMe
/- Package disk: Rename. -/
namespace Go.Proofs.YtekejnjaiccnbaaGreatDoor
open Go.RowKit Go.Maps
set_option linter.unusedVariables false
set_option maxRecDepth 20000

def box4 (w : World) (d : Nat) (s t : ByteArray) : World := (((w.alloc (.cells #[.pointer (some ⟨d, 0, none⟩)] 34)).alloc (.cells #[.string s] 9)).alloc (.cells #[.string t] 9)).alloc (.cells #[.string s, .string t] 9)
theorem box4_facts (w : World) (d : Nat) (s t : ByteArray) : w.grownBy (box4 w d s t) none ∧ (box4 w d s t).rowIs w.heap.size 34 1 (fun _ => .pointer (some ⟨d, 0, none⟩)) ∧ (box4 w d s t).rowIs (w.heap.size + 1) 9 1 (fun _ => .string s) ∧ (box4 w d s t).rowIs (w.heap.size + 1 + 1) 9 1 (fun _ => .string t) ∧ SRd strE (box4 w d s t) (some ⟨w.heap.size + 1 + 1 + 1, 0, none⟩) [s, t] := by
  have hs1 : ∀ (w : World) o, (w.alloc o).heap.size = w.heap.size + 1 := fun w o => Array.size_push _
  have g1 := World.grownBy_alloc w (.cells #[.pointer (some ⟨d, 0, none⟩)] 34) none
  have g2 := World.grownBy_alloc (w.alloc (.cells #[.pointer (some ⟨d, 0, none⟩)] 34)) (.cells #[.string s] 9) none
  have g3 := World.grownBy_alloc ((w.alloc (.cells #[.pointer (some ⟨d, 0, none⟩)] 34)).alloc (.cells #[.string s] 9)) (.cells #[.string t] 9) none
  have g4 := World.grownBy_alloc (((w.alloc (.cells #[.pointer (some ⟨d, 0, none⟩)] 34)).alloc (.cells #[.string s] 9)).alloc (.cells #[.string t] 9)) (.cells #[.string s, .string t] 9) none
  refine ⟨g1.trans (g2.trans (g3.trans g4)), ?_, ?_, ?_, ?_⟩
  · have r := World.rowIs_alloc w #[.pointer (some ⟨d, 0, none⟩)] 34 (fun _ => .pointer (some ⟨d, 0, none⟩)) (one_cell _)
    exact r.of_block ((g2.trans (g3.trans g4)).block w.heap.size r.lt (by simp))
  · have r := World.rowIs_alloc (w.alloc (.cells #[.pointer (some ⟨d, 0, none⟩)] 34)) #[.string s] 9 (fun _ => .string s) (one_cell _)
    rw [hs1] at r
    exact r.of_block ((g3.trans g4).block _ r.lt (by simp))
  · have r := World.rowIs_alloc ((w.alloc (.cells #[.pointer (some ⟨d, 0, none⟩)] 34)).alloc (.cells #[.string s] 9)) #[.string t] 9 (fun _ => .string t) (one_cell _)
    rw [hs1, hs1] at r
    exact r.of_block (g4.block _ r.lt (by simp))
  · have r := slit (((w.alloc (.cells #[.pointer (some ⟨d, 0, none⟩)] 34)).alloc (.cells #[.string s] 9)).alloc (.cells #[.string t] 9)) [s, t]
    rw [hs1, hs1, hs1] at r
    exact r
set_option maxHeartbeats 4000000 in
theorem v_renameBy (base d mb n b : Nat) (set : Bool) (ah kp wn : Int) (F : ByteArray → Option Nat) (G : Nat → FD) (s t : ByteArray) (R : Int → World → Prop) (w : World) (h : DiskIs w base d mb n false set ah kp wn F G) (hns : nameB s = true) (hnt : nameB t = true) (hs : F s = some b)
    (hw : ∀ W p, (box4 w d s t).grownBy W none → W.rowIs p 94 1 (fun _ => .pointer (some ⟨b, 0, none⟩)) → Calls Tryz.prog 67 #[.pointer (some ⟨d, 0, none⟩), .bool false, .func (.func 152) #[] #[.pointer (some ⟨w.heap.size, 0, none⟩), .pointer (some ⟨w.heap.size + 1, 0, none⟩), .pointer (some ⟨p, 0, none⟩), .pointer (some ⟨w.heap.size + 1 + 1, 0, none⟩)]] W fun e w' => ∃ c, e = .returned (.int .i64 c) ∧ R c w') :
    Calls Tryz.prog 127 #[.pointer (some ⟨d, 0, none⟩), .string s, .string t] w fun e w' => ∃ c, e = .returned (.int .i64 c) ∧ R c w' := by
  obtain ⟨hg, r3, r4, r5, hsl⟩ := box4_facts w d s t
  have hss := nameB_size hns
  have hst := nameB_size hnt
  have hd4 := h.kept hg
  have HRC : Hid (Calls Tryz.prog 65 #[.pointer (some ⟨d, 0, none⟩), .slice (some ⟨w.heap.size + 1 + 1 + 1, 0, none⟩) 2 2] (box4 w d s t) fun e w' => e = .returned (.int .i64 0) ∧ (box4 w d s t) = w') := by
    have := d_reach d mb false set ah kp wn _ [s, t] 2 2 _ hd4.row hsl rfl (by omega) (by intro x hx; simp only [List.mem_cons, List.mem_nil_iff, or_false] at hx; rcases hx with rfl | rfl <;> omega)
    rw [show reachC false [s, t] = 0 by simp [reachC, hns, hnt]] at this
    exact this
  have HF : Hid (Calls Tryz.prog 95 #[.pointer (some ⟨d, 0, none⟩), .string s] (box4 w d s t) fun e w' => e = .returned (.tuple #[.pointer (some ⟨b, 0, none⟩), .int .i64 0]) ∧ (box4 w d s t).grownBy w' none ∧ w'.cell? ⟨w.heap.size, 0, none⟩ = some (.pointer (some ⟨d, 0, none⟩)) ∧ w.heap.size < w'.heap.size) := by
    have := d_find d mb n false set ah kp wn F s (box4 w d s t) hd4.row hd4.map (by omega)
    rw [show findP false F s = some b by simp [findP, hns, hs], show findC false F s = 0 by simp [findC, hns, hs]] at this
    refine this.mono ?_
    rintro e w' ⟨rfl, hg'⟩
    exact ⟨rfl, hg', hg'.cell (r3.cell (i := 0) (by omega)) (by simp), Nat.lt_of_lt_of_le r3.lt hg'.size⟩
  have HW : Hid (∀ W p, (box4 w d s t).grownBy W none → W.rowIs p 94 1 (fun _ => .pointer (some ⟨b, 0, none⟩)) → Calls Tryz.prog 67 #[.pointer (some ⟨d, 0, none⟩), .bool false, .func (.func 152) #[] #[.pointer (some ⟨w.heap.size, 0, none⟩), .pointer (some ⟨w.heap.size + 1, 0, none⟩), .pointer (some ⟨p, 0, none⟩), .pointer (some ⟨w.heap.size + 1 + 1, 0, none⟩)]] W fun e w' => ∃ c, e = .returned (.int .i64 c) ∧ R c w') := hw
  unfold box4 at HRC HF HW
  clear h hg r3 r4 r5 hsl hw hd4 hs
  go_enter Tryz.func127, Tryz.ntmps127
  go_wp2_with fail
  refine HRC.out.mono ?_
  rintro e w' ⟨rfl, rfl⟩
  go_wp2_with fail
  refine HF.out.mono ?_
  rintro e w5 ⟨rfl, hg5, c5, hl5⟩
  have HG5 : Hid (((((w.alloc (.cells #[.pointer (some ⟨d, 0, none⟩)] 34)).alloc (.cells #[.string s] 9)).alloc (.cells #[.string t] 9)).alloc (.cells #[.string s, .string t] 9)).grownBy w5 none) := hg5
  have hne : w.heap.size ≠ w5.heap.size := by omega
  clear hg5
  go_wp2_with fail
  have hga := World.grownBy_alloc w5 (.cells #[.pointer (some ⟨b, 0, none⟩)] 94) none
  have hrow := World.rowIs_alloc w5 #[.pointer (some ⟨b, 0, none⟩)] 94 (fun _ => .pointer (some ⟨b, 0, none⟩)) (one_cell _)
  refine (HW.out _ w5.heap.size (HG5.out.trans hga) hrow).mono ?_
  rintro e w' ⟨c, rfl, hR⟩
  have HR : Hid (R c w') := hR
  clear hR hga hrow
  go_wp2
  go_ret
  exact ⟨c, rfl, HR.out⟩
theorem v_renameLost (base d mb n : Nat) (kp wn : Int) (V : Cont) (B : Nat → Prop) (s t : ByteArray) (Z : List Int) (Y : Nat) (w : World) (h : DV w base d mb n false true 0 kp wn V B) (hns : nameB s = true) (hnt : nameB t = true) (hs : V s = some (Z, Y)) (hw : 0 ≤ wn ∧ wn ≤ 1000000000) (hk : -9223372036854775808 ≤ kp ∧ kp ≤ 9223372036854775807) :
    Calls Tryz.prog 127 #[.pointer (some ⟨d, 0, none⟩), .string s, .string t] w fun e w' => e = .returned (.int .i64 60) ∧ DV w' base d mb n true false 0 0 (wn + 1) (fun t => (V t).map (cutV kp)) B ∧ Step w w' B B := by
  obtain ⟨F, G, hd, hv, hB⟩ := h
  obtain ⟨b, hF⟩ : ∃ b, F s = some b := by
    rw [hv s] at hs
    cases hF : F s with
    | none => rw [hF] at hs; cases hs
    | some b => exact ⟨b, rfl⟩
  obtain ⟨hg, _⟩ := box4_facts w d s t
  refine (v_renameBy base d mb n b true 0 kp wn F G s t (fun c w' => c = 60 ∧ DV w' base d mb n true false 0 0 (wn + 1) (fun t => (V t).map (cutV kp)) B ∧ Step w w' B B) w hd hns hnt hF ?_).mono ?_
  · intro W p hgW hp
    refine (d_writeLost base d mb n false kp wn F G _ W (hd.kept (hg.trans hgW)) hw hk).mono ?_
    rintro e w' ⟨rfl, hd', hk'⟩
    obtain ⟨h1, h2⟩ := DV.cut (off := false) (set := true) (ah := 0) (kp := kp) (wn := wn) hd' hv hB hk'
    exact ⟨60, rfl, rfl, h1, (Step.grown B (hg.trans hgW)).trans h2⟩
  · rintro e w' ⟨c, rfl, rfl, hP⟩
    exact ⟨rfl, hP⟩
theorem v_listOff (d mb : Nat) (set : Bool) (ah kp wn : Int) (s : ByteArray) (w : World) (h : DRow w d mb true set ah kp wn) : Calls Tryz.prog 26 #[.pointer (some ⟨d, 0, none⟩), .string s] w fun e w' => e = .returned (.slice none 0 0) ∧ w.grownBy w' none := by
  obtain ⟨c0, c1, c2, c3, c4, c5⟩ := h.cells
  clear h c0 c2 c3 c4 c5
  go_enter Tryz.func26, Tryz.ntmps26
  go_wp2
  go_ret
  exact ⟨rfl, by first | exact World.grownBy.refl _ _ | exact World.grownBy_alloc _ _ none⟩
end Go.Proofs.YtekejnjaiccnbaaGreatDoor

/- The law's own first look at a disk. -/
namespace Go.Proofs.YtekejnjaiccnbaaGreatDoor
open Go.RowKit Go.Maps
set_option linter.unusedVariables false
set_option maxRecDepth 20000

theorem DV.lts {w : World} {base d mb n : Nat} {off set : Bool} {ah kp wn : Int} {V : Cont} {B : Nat → Prop} (h : DV w base d mb n off set ah kp wn V B) : d < w.heap.size ∧ mb < w.heap.size := by
  obtain ⟨F, G, hd, _⟩ := h
  exact ⟨hd.row.lt, hd.map.lt⟩
theorem blit (w : World) (zs : List Int) : SRd byteE (w.alloc (.cells (byteE.flat zs).toArray 5)) (some ⟨w.heap.size, 0, none⟩) zs := by
  refine .inr ⟨w.heap.size, 0, rfl, fun j v hj => ?_⟩
  rw [Nat.zero_add, cell_of_row _ w.heap.size j _ 5 _ (heap_alloc_new w _)]
  simpa using hj
/-- From the first world on: nothing that was there is among the disk's blocks. -/
def From (w0 w : World) (B : Nat → Prop) : Prop := w0.grownBy w none ∧ ∀ k, k < w0.heap.size → ¬ B k
theorem From.step {w0 w w' : World} {B B' : Nat → Prop} (h : From w0 w B) (hs : Step w w' B B') : From w0 w' B' := by
  obtain ⟨hg, hB⟩ := h
  refine ⟨⟨hs.1.os.trans hg.os, hs.1.tape.trans hg.tape, hs.1.output.trans hg.output, Nat.le_trans hg.size hs.1.size, fun k hk hne => (hs.1.block k (Nat.lt_of_lt_of_le hk hg.size) (hB k hk)).trans (hg.block k hk hne)⟩, fun k hk hb => hB k hk (hs.2 k (Nat.lt_of_lt_of_le hk hg.size) hb)⟩
theorem From.grown {w0 w w' : World} {B : Nat → Prop} (h : From w0 w B) (hg : w.grownBy w' none) : From w0 w' B := ⟨h.1.trans hg, h.2⟩
/-- Append of bytes that were laid just ahead. -/
theorem v_appendLit (w0 : World) (base d mb n : Nat) (ah kp wn : Int) (V : Cont) (B : Nat → Prop) (s : ByteArray) (zs : List Int) (w : World) (h : DV w base d mb n false false ah kp wn V B) (hf : From w0 w B) (hb0 : base = w0.heap.size) (hnm : nameB s = true) (hn : n < 1048576) (hw : 0 ≤ wn ∧ wn ≤ 1000000000) (hby : ∀ z ∈ zs, 0 ≤ z ∧ z ≤ 255) (hlen : (oldV V s).1.length + zs.length ≤ 4194304) :
    Calls Tryz.prog 27 #[.pointer (some ⟨d, 0, none⟩), .string s, .slice (some ⟨w.heap.size, 0, none⟩) zs.length zs.length] (w.alloc (.cells (byteE.flat zs).toArray 5)) fun e w' => e = .returned (.int .i64 0) ∧ ∃ n' B', n' ≤ n + 1 ∧ DV w' base d mb n' false false ah kp (wn + 1) (setV V s (some ((oldV V s).1 ++ zs, (oldV V s).2))) B' ∧ From w0 w' B' := by
  have hg := World.grownBy_alloc w (.cells (byteE.flat zs).toArray 5) none
  obtain ⟨h1, h2⟩ := h.lts
  refine (v_append base d mb n ah kp wn V B s ⟨w.heap.size, 0, none⟩ zs zs.length zs.length _ (h.kept hg) hnm hn hw (blit w zs) rfl hby hlen (by rw [hb0]; exact Nat.le_trans hf.1.size hg.size) (by show w.heap.size ≠ mb; omega) (by show w.heap.size ≠ d; omega)).mono ?_
  rintro e w' ⟨rfl, n', B', hn', hd', hst⟩
  exact ⟨rfl, n', B', hn', hd', (hf.grown hg).step hst⟩
theorem srd_rd {w : World} {a : Option Addr} {l : List Int} (h : SRd byteE w a l) (hb : ∀ z ∈ l, 0 ≤ z ∧ z ≤ 255) : Rd w a l := by
  refine ⟨?_, hb⟩
  rcases h with h | ⟨b, off, e, h⟩
  · exact .inl h
  · refine .inr ⟨b, off, e, fun i hi => h i _ ?_⟩
    rw [byteE_flat, List.getElem?_map, List.getElem?_eq_getElem hi]
    simp [List.getD, List.getElem?_eq_getElem hi]
theorem SRd.step {w w' : World} {B B' : Nat → Prop} {a : Option Addr} {l : List Int} (h : SRd byteE w a l) (hs : Kept w w' B) (hx : ∀ x, a = some x → x.block < w.heap.size ∧ ¬ B x.block) : SRd byteE w' a l := by
  rcases h with e | ⟨b, off, e, h⟩
  · exact .inl e
  · refine .inr ⟨b, off, e, fun j v hj => ?_⟩
    have hc := h j v hj
    obtain ⟨h1, h2⟩ := hx _ e
    unfold World.cell? at hc ⊢
    rw [hs.block b h1 h2]
    exact hc
def nmA : ByteArray := ⟨#[97]⟩
def nmB : ByteArray := ⟨#[98]⟩
theorem nameA : nameB nmA = true := by decide
theorem nameBB : nameB nmB = true := by decide
def V0 : Cont := fun _ => none
def V1 : Cont := setV V0 nmA (some ([1, 2], 0))
def V2 : Cont := setV V1 nmA (some ([1, 2], 2))
def V3 : Cont := setV V2 nmA (some ([1, 2, 3, 4], 2))
def V4 : Cont := fun t => (V3 t).map (cutV 1)
theorem V4_a : V4 nmA = some ([1, 2, 3], 3) := by
  show (V3 nmA).map (cutV 1) = _
  unfold V3
  rw [setV_same]
  rfl
end Go.Proofs.YtekejnjaiccnbaaGreatDoor

/- Package disk: Rename, done. -/
namespace Go.Proofs.YtekejnjaiccnbaaGreatDoor
open Go.RowKit Go.Maps
set_option linter.unusedVariables false
set_option maxRecDepth 20000

/-- A file has another name. -/
theorem DiskIs.moved {w w' : World} {base d mb n n' b : Nat} {off set : Bool} {ah kp wn : Int} {F : ByteArray → Option Nat} {G : Nat → FD} {s t : ByteArray} (h : DiskIs w base d mb n off set ah kp wn F G) (hs : F s = some b) (hm : MapIs w' mb n' (setF (setF F s none) t (some b))) (hk : Kept w w' (fun k => k = mb)) :
    DiskIs w' base d mb n' off set ah kp wn (setF (setF F s none) t (some b)) G := by
  have hdm : d ≠ mb := map_ne h.row h.map
  have hold : ∀ x c, setF (setF F s none) t (some b) x = some c → (x = t ∧ c = b) ∨ (x ≠ t ∧ x ≠ s ∧ F x = some c) := by
    intro x c hx
    by_cases e : x = t
    · subst e; rw [setF_same] at hx; exact .inl ⟨rfl, (Option.some.inj hx).symm⟩
    · rw [setF_other _ _ e] at hx
      by_cases e' : x = s
      · subst e'; rw [setF_same] at hx; cases hx
      · rw [setF_other _ _ e'] at hx; exact .inr ⟨e, e', hx⟩
  have hsrc : ∀ x c, setF (setF F s none) t (some b) x = some c → ∃ y, F y = some c := by
    intro x c hx
    rcases hold x c hx with ⟨_, rfl⟩ | ⟨_, _, h3⟩
    · exact ⟨s, hs⟩
    · exact ⟨x, h3⟩
  refine ⟨h.row.of_block (hk.block d h.row.lt hdm), hm, fun x c hx => ?_, fun x y c hx hy => ?_, fun x y c c' hx hy hne => ?_, h.hd, h.hmb⟩
  · obtain ⟨y, hy⟩ := hsrc x c hx
    have hl := h.lt y c hy
    exact ⟨FIs.stay (h.file y c hy).1 (hk.block c hl.1 hl.2.2) (fun z hz => hk.block z.block (h.slc hy hz).2.1 (h.slc hy hz).2.2.2.1), (h.file y c hy).2⟩
  · rcases hold x c hx with ⟨rfl, rfl⟩ | ⟨h1, h2, h3⟩
    · rcases hold y c hy with ⟨rfl, _⟩ | ⟨k1, k2, k3⟩
      · rfl
      · exact absurd (h.inj y s c k3 hs) k2
    · rcases hold y c hy with ⟨rfl, rfl⟩ | ⟨k1, k2, k3⟩
      · exact absurd (h.inj x s c h3 hs) h2
      · exact h.inj x y c h3 k3
  · obtain ⟨x', hx'⟩ := hsrc x c hx
    obtain ⟨y', hy'⟩ := hsrc y c' hy
    exact h.apart x' y' c c' hx' hy' hne
set_option maxHeartbeats 4000000 in
theorem d_ren1 (base d mb n b B3 B4 B5 p : Nat) (off set : Bool) (ah kp wn : Int) (F : ByteArray → Option Nat) (G : Nat → FD) (s t : ByteArray) (w : World) (h : DiskIs w base d mb n off set ah kp wn F G) (hs : F s = some b) (hss : s.size ≤ 64) (hst : t.size ≤ 64) (hn : n ≤ 1048576)
    (hB3 : w.rowIs B3 34 1 (fun _ => .pointer (some ⟨d, 0, none⟩))) (hB4 : w.rowIs B4 9 1 (fun _ => .string s)) (hB5 : w.rowIs B5 9 1 (fun _ => .string t)) (hp : w.rowIs p 94 1 (fun _ => .pointer (some ⟨b, 0, none⟩))) :
    Calls Tryz.prog 152 #[.pointer (some ⟨B3, 0, none⟩), .pointer (some ⟨B4, 0, none⟩), .pointer (some ⟨p, 0, none⟩), .pointer (some ⟨B5, 0, none⟩)] w fun e w' => e = .returned (.tuple #[]) ∧ DiskIs w' base d mb (n + 1) off set ah kp wn (setF (setF F s none) t (some b)) G ∧ Kept w w' (fun k => k = mb) := by
  obtain ⟨c0, c1, c2, c3, c4, c5⟩ := h.row.cells
  have p3 : w.cell? ⟨B3, 0, none⟩ = some (.pointer (some ⟨d, 0, none⟩)) := hB3.cell (i := 0) (by omega)
  have p4 : w.cell? ⟨B4, 0, none⟩ = some (.string s) := hB4.cell (i := 0) (by omega)
  obtain ⟨w1, hdel, hm1, hg1⟩ := h.drew.map.del s hss 0
  obtain ⟨w2, hput, hm2, hg2⟩ := (hm1.kept (gb_drew (World.grownBy.refl w1 none)) (by simp)).put t hst hn b
  have hk1 : Kept w w1 (fun k => k = mb) := Kept.of (show w.grownBy w1 (some mb) from ⟨hg1.os, hg1.tape, hg1.output, hg1.size, hg1.block⟩) (fun k hk => by cases hk; rfl)
  have hk2 : Kept w w2 (fun k => k = mb) := hk1.trans (Kept.of (show w1.grownBy w2 (some mb) from ⟨hg2.os, hg2.tape, hg2.output, hg2.size, hg2.block⟩) (X := fun k => k = mb) (fun k hk => by cases hk; rfl)) (fun k _ hk => hk)
  have HE : Hid (DiskIs w2 base d mb (n + 1) off set ah kp wn (setF (setF F s none) t (some b)) G ∧ Kept w w2 (fun k => k = mb)) := ⟨h.moved hs hm2 hk2, hk2⟩
  have hdm : d ≠ mb := map_ne h.row h.map
  have q3 : w1.cell? ⟨B3, 0, none⟩ = some (.pointer (some ⟨d, 0, none⟩)) := kept_cell hk1 p3 (map_ne hB3 h.map)
  have q0 : w1.cell? ⟨d, 0, none⟩ = some (.map (some mb)) := kept_cell hk1 c0 hdm
  have q5 : w1.cell? ⟨B5, 0, none⟩ = some (.string t) := kept_cell hk1 (hB5.cell (i := 0) (by omega)) (map_ne hB5 h.map)
  have qp : w1.cell? ⟨p, 0, none⟩ = some (.pointer (some ⟨b, 0, none⟩)) := kept_cell hk1 (hp.cell (i := 0) (by omega)) (map_ne hp h.map)
  clear h hs hB3 hB4 hB5 hp hm1 hm2 hg1 hg2 hk1 hk2 c1 c2 c3 c4 c5
  go_enter Tryz.func152, Tryz.ntmps152
  go_wp2_with fail
  go_region
  all_goals go_wp2_with fail
  all_goals go_region
  all_goals go_wp2
  all_goals go_end0
  all_goals exact ⟨rfl, HE.out.1, HE.out.2⟩
theorem v_rename (base d mb n : Nat) (ah kp wn : Int) (V : Cont) (B : Nat → Prop) (s t : ByteArray) (Z : List Int) (Y : Nat) (w : World) (h : DV w base d mb n false false ah kp wn V B) (hns : nameB s = true) (hnt : nameB t = true) (hs : V s = some (Z, Y)) (hn : n ≤ 1048576) (hw : 0 ≤ wn ∧ wn ≤ 1000000000) :
    Calls Tryz.prog 127 #[.pointer (some ⟨d, 0, none⟩), .string s, .string t] w fun e w' => e = .returned (.int .i64 0) ∧ DV w' base d mb (n + 1) false false ah kp (wn + 1) (setV (setV V s none) t (some (Z, Y))) B ∧ Step w w' B B := by
  obtain ⟨F, G, hd, hv, hB⟩ := h
  obtain ⟨b, hF, hZ, hY⟩ : ∃ b, F s = some b ∧ (G b).zs = Z ∧ (G b).syn = Y := by
    rw [hv s] at hs
    cases hF : F s with
    | none => rw [hF] at hs; cases hs
    | some b => rw [hF] at hs; simp only [Option.map_some, Option.some.injEq, Prod.mk.injEq] at hs; exact ⟨b, rfl, hs.1, hs.2⟩
  obtain ⟨hg, r3, r4, r5, _⟩ := box4_facts w d s t
  refine (v_renameBy base d mb n b false ah kp wn F G s t (fun c w' => c = 0 ∧ DV w' base d mb (n + 1) false false ah kp (wn + 1) (setV (setV V s none) t (some (Z, Y))) B ∧ Step w w' B B) w hd hns hnt hF ?_).mono ?_
  · intro W p hgW hp
    have hdW := hd.kept (hg.trans hgW)
    refine (d_writeGo52 base d mb n false false ah kp wn F G _ (fun w' => DV w' base d mb (n + 1) false false ah kp (wn + 1) (setV (setV V s none) t (some (Z, Y))) B ∧ Step w w' B B) W hdW hw ?_).mono ?_
    · intro w1 h1 hk1
      have k3 : W.rowIs w.heap.size 34 1 (fun _ => .pointer (some ⟨d, 0, none⟩)) := r3.of_block (hgW.block _ r3.lt (by simp))
      have k4 : W.rowIs (w.heap.size + 1) 9 1 (fun _ => .string s) := r4.of_block (hgW.block _ r4.lt (by simp))
      have k5 : W.rowIs (w.heap.size + 1 + 1) 9 1 (fun _ => .string t) := r5.of_block (hgW.block _ r5.lt (by simp))
      refine (d_ren1 base d mb n b _ _ _ p false false ah kp (wn + 1) F G s t w1 h1 hF (nameB_size hns) (nameB_size hnt) hn (k3.of_block (hk1.block _ k3.lt (row_ne k3 hdW.row (by decide)))) (k4.of_block (hk1.block _ k4.lt (row_ne k4 hdW.row (by decide)))) (k5.of_block (hk1.block _ k5.lt (row_ne k5 hdW.row (by decide)))) (hp.of_block (hk1.block _ hp.lt (row_ne hp hdW.row (by decide))))).mono ?_
      rintro e w' ⟨rfl, hd', hk'⟩
      refine ⟨rfl, ⟨_, G, hd', fun x => ?_, fun k hk => ?_⟩, ((Step.grown B (hg.trans hgW)).trans ⟨hk1.mono (fun k _ hk => hB k (.inl hk)), fun k _ hk => hk⟩).trans ⟨hk'.mono (fun k _ hk => hB k (.inr (.inl hk))), fun k _ hk => hk⟩⟩
      · by_cases e : x = t
        · subst e; rw [setV_same, setF_same, Option.map_some, hZ, hY]
        · rw [setV_other _ _ e, setF_other _ _ e]
          by_cases e' : x = s
          · subst e'; rw [setV_same, setF_same]; rfl
          · rw [setV_other _ _ e', setF_other _ _ e']; exact hv x
      · rcases hk with e | e | ⟨x, c, hx, e⟩
        · exact hB k (.inl e)
        · exact hB k (.inr (.inl e))
        · have : ∃ y, F y = some c := by
            by_cases e1 : x = t
            · subst e1; rw [setF_same] at hx; obtain rfl := Option.some.inj hx; exact ⟨s, hF⟩
            · rw [setF_other _ _ e1] at hx
              by_cases e2 : x = s
              · subst e2; rw [setF_same] at hx; cases hx
              · rw [setF_other _ _ e2] at hx; exact ⟨x, hx⟩
          obtain ⟨y, hy⟩ := this
          exact hB k (.inr (.inr ⟨y, c, hy, e⟩))
    · rintro e w' ⟨rfl, hP⟩
      exact ⟨0, rfl, rfl, hP⟩
  · rintro e w' ⟨c, rfl, rfl, hP⟩
    exact ⟨rfl, hP⟩
end Go.Proofs.YtekejnjaiccnbaaGreatDoor

