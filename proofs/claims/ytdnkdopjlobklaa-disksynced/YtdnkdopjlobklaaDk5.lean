/- Package disk: how a disk goes through writes of its struct; Off. -/
import Derived.Test.YtdnkdopjlobklaaDk4
namespace Go.Proofs.Ytdnkdopjlobklaa
open Go.RowKit Go.Maps
set_option linter.unusedVariables false
set_option maxRecDepth 20000

section
variable {w w' : World} {base d mb n : Nat} {off set : Bool} {ah kp wn : Int} {F : ByteArray → Option Nat} {G : Nat → FD}
theorem DiskIs.lt (h : DiskIs w base d mb n off set ah kp wn F G) : ∀ s b, F s = some b → b < w.heap.size ∧ b ≠ d ∧ b ≠ mb := fun s b hs => ⟨(FileIs.row (h.file s b hs).1).lt, row_ne (FileIs.row (h.file s b hs).1) h.row (by decide), map_ne (FileIs.row (h.file s b hs).1) h.map⟩
theorem DiskIs.slc (h : DiskIs w base d mb n off set ah kp wn F G) {s : ByteArray} {b : Nat} (hs : F s = some b) {x : Addr} (hx : (G b).a = some x) : base ≤ x.block ∧ x.block < w.heap.size ∧ x.block ≠ d ∧ x.block ≠ mb ∧ ∀ t b', F t = some b' → x.block ≠ b' := by
  have ho := FileIs.own (h.file s b hs).1
  rw [hx] at ho
  have h1 := SOwn.block ho x.block rfl
  exact ⟨h1.1, h1.2, own_ne h.row ho (by decide), own_map h.map ho, fun t b' ht => own_ne (FileIs.row (h.file t b' ht).1) ho (by decide)⟩
/-- The blocks of a disk have stayed, but for its struct's. -/
theorem DiskIs.rowed {off' set' : Bool} {ah' kp' wn' : Int} (h : DiskIs w base d mb n off set ah kp wn F G) (hr : DRow w' d mb off' set' ah' kp' wn') (hg : Kept w w' (fun k => k = d)) : DiskIs w' base d mb n off' set' ah' kp' wn' F G := by
  obtain ⟨D, ⟨es, clock, hb, hF, hs, hD⟩, h1, h2, h3⟩ := h.map
  have hmd : mb ≠ d := fun e => map_ne h.row h.map e.symm
  refine ⟨hr, ⟨D, ⟨es, clock, (hg.block mb h.map.lt hmd).trans hb, hF, hs, hD⟩, h1, h2, h3⟩, fun s b hs => ⟨?_, (h.file s b hs).2⟩, h.inj, h.apart, h.hd, h.hmb⟩
  refine FIs.stay (h.file s b hs).1 (hg.block b (h.lt s b hs).1 (h.lt s b hs).2.1) (fun x hx => hg.block x.block (h.slc hs hx).2.1 (h.slc hs hx).2.2.1)
theorem DiskIs.kept (h : DiskIs w base d mb n off set ah kp wn F G) (hg : w.grownBy w' none) : DiskIs w' base d mb n off set ah kp wn F G :=
  h.rowed (h.row.of_block (hg.block d h.row.lt (by simp))) (Kept.of hg (fun k hk => by cases hk))
theorem DiskIs.drew (h : DiskIs w base d mb n off set ah kp wn F G) : DiskIs w.drew base d mb n off set ah kp wn F G := h.kept (gb_drew (World.grownBy.refl w none))
/-- Other blocks may be written, too. -/
theorem DiskIs.others {X : Nat → Prop} (h : DiskIs w base d mb n off set ah kp wn F G) (hg : Kept w w' X) (h1 : ¬ X d) (h2 : ¬ X mb) (h3 : ∀ s b, F s = some b → ¬ X b ∧ ∀ x, (G b).a = some x → ¬ X x.block) : DiskIs w' base d mb n off set ah kp wn F G := by
  obtain ⟨D, ⟨es, clock, hb, hF, hs, hD⟩, e1, e2, e3⟩ := h.map
  refine ⟨h.row.of_block (hg.block d h.row.lt h1), ⟨D, ⟨es, clock, (hg.block mb h.map.lt h2).trans hb, hF, hs, hD⟩, e1, e2, e3⟩, fun s b hs => ⟨?_, (h.file s b hs).2⟩, h.inj, h.apart, h.hd, h.hmb⟩
  exact FIs.stay (h.file s b hs).1 (hg.block b (h.lt s b hs).1 (h3 s b hs).1) (fun x hx => hg.block x.block (h.slc hs hx).2.1 ((h3 s b hs).2 x hx))
end
set_option maxHeartbeats 2000000 in
theorem d_off (base d mb n : Nat) (set : Bool) (ah kp wn keep : Int) (F : ByteArray → Option Nat) (G : Nat → FD) (w : World) (h : DiskIs w base d mb n false set ah kp wn F G) (hk : -9223372036854775808 ≤ keep ∧ keep ≤ 9223372036854775807) :
    Calls Try.prog 19 #[.pointer (some ⟨d, 0, none⟩), .int .i64 keep] w fun e w' => e = .returned (.tuple #[]) ∧ DiskIs w' base d mb n true false 0 0 wn F (fun b => cutD keep (G b)) ∧ Kept w w' (Own0 d mb F) := by
  obtain ⟨c0, c1, c2, c3, c4, c5⟩ := h.row.cells
  have HC : Hid (Calls Try.prog 50 #[.pointer (some ⟨d, 0, none⟩), .int .i64 keep] w fun e w' => e = .returned (.tuple #[]) ∧ DiskIs w' base d mb n true set ah kp wn F (fun b => cutD keep (G b)) ∧ Kept w w' (Own0 d mb F)) := d_cut base d mb n false set ah kp wn keep F G w h hk
  clear h hk c0 c2 c3 c4 c5
  go_enter Try.func19, Try.ntmps19
  go_wp2_with fail
  refine HC.out.mono ?_
  rintro e w1 ⟨rfl, hd1, hk1⟩
  have HD1 : Hid (DiskIs w1 base d mb n true set ah kp wn F (fun b => cutD keep (G b))) := hd1
  have HK1 : Hid (Kept w w1 (Own0 d mb F)) := hk1
  clear hd1 hk1
  go_wp2_with fail
  refine (d_disarm d mb true set ah kp wn w1 HD1.out.row).mono ?_
  rintro e w2 ⟨rfl, hr2, hg2⟩
  have HD2 : Hid (DiskIs w2 base d mb n true false 0 0 wn F (fun b => cutD keep (G b))) := HD1.out.rowed hr2 (Kept.of hg2 (fun k hk => by cases hk; rfl))
  have HK2 : Hid (Kept w w2 (Own0 d mb F)) := HK1.out.trans (Kept.of hg2 (X := fun k => k = d) (fun k hk => by cases hk; rfl)) (fun k _ hk => .inl hk)
  clear hr2 hg2
  go_wp2
  go_end0
  exact ⟨rfl, HD2.out, HK2.out⟩
end Go.Proofs.Ytdnkdopjlobklaa
