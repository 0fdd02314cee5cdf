/- The law's own first look at a disk. -/
import Derived.Test.YtbhffjeoakalbaaGreatDoorDk13
namespace Go.Proofs.YtbhffjeoakalbaaGreatDoor
open Go.RowKit Go.Maps
set_option linter.unusedVariables false
set_option maxRecDepth 20000

theorem DV.lts {w : World} {base d mb n : Nat} {off set : Bool} {ah kp wn : Int} {V : Cont} {B : Nat → Prop} (h : DV w base d mb n off set ah kp wn V B) : d < w.heap.size ∧ mb < w.heap.size := by
  obtain ⟨F, G, hd, _⟩ := h
  exact ⟨hd.row.lt, hd.map.lt⟩
theorem blit (w : World) (zs : List Int) : SRd byteE (w.alloc (.cells (byteE.flat zs).toArray 5)) (some ⟨w.heap.size, 0, none⟩) zs := by
  refine .inr ⟨w.heap.size, 0, rfl, fun j v hj => ?_⟩
  rw [Nat.zero_add, cell_of_row _ w.heap.size j _ 5 _ (heap_alloc_new w _)]
  simpa using hj
/-- From the first world on: nothing that was there is among the disk's blocks. -/
def From (w0 w : World) (B : Nat → Prop) : Prop := w0.grownBy w none ∧ ∀ k, k < w0.heap.size → ¬ B k
theorem From.step {w0 w w' : World} {B B' : Nat → Prop} (h : From w0 w B) (hs : Step w w' B B') : From w0 w' B' := by
  obtain ⟨hg, hB⟩ := h
  refine ⟨⟨hs.1.os.trans hg.os, hs.1.tape.trans hg.tape, hs.1.output.trans hg.output, Nat.le_trans hg.size hs.1.size, fun k hk hne => (hs.1.block k (Nat.lt_of_lt_of_le hk hg.size) (hB k hk)).trans (hg.block k hk hne)⟩, fun k hk hb => hB k hk (hs.2 k (Nat.lt_of_lt_of_le hk hg.size) hb)⟩
theorem From.grown {w0 w w' : World} {B : Nat → Prop} (h : From w0 w B) (hg : w.grownBy w' none) : From w0 w' B := ⟨h.1.trans hg, h.2⟩
/-- Append of bytes that were laid just ahead. -/
theorem v_appendLit (w0 : World) (base d mb n : Nat) (ah kp wn : Int) (V : Cont) (B : Nat → Prop) (s : ByteArray) (zs : List Int) (w : World) (h : DV w base d mb n false false ah kp wn V B) (hf : From w0 w B) (hb0 : base = w0.heap.size) (hnm : nameB s = true) (hn : n < 1048576) (hw : 0 ≤ wn ∧ wn ≤ 1000000000) (hby : ∀ z ∈ zs, 0 ≤ z ∧ z ≤ 255) (hlen : (oldV V s).1.length + zs.length ≤ 4194304) :
    Calls Tryz.prog 27 #[.pointer (some ⟨d, 0, none⟩), .string s, .slice (some ⟨w.heap.size, 0, none⟩) zs.length zs.length] (w.alloc (.cells (byteE.flat zs).toArray 5)) fun e w' => e = .returned (.int .i64 0) ∧ ∃ n' B', n' ≤ n + 1 ∧ DV w' base d mb n' false false ah kp (wn + 1) (setV V s (some ((oldV V s).1 ++ zs, (oldV V s).2))) B' ∧ From w0 w' B' := by
  have hg := World.grownBy_alloc w (.cells (byteE.flat zs).toArray 5) none
  obtain ⟨h1, h2⟩ := h.lts
  refine (v_append base d mb n ah kp wn V B s ⟨w.heap.size, 0, none⟩ zs zs.length zs.length _ (h.kept hg) hnm hn hw (blit w zs) rfl hby hlen (by rw [hb0]; exact Nat.le_trans hf.1.size hg.size) (by show w.heap.size ≠ mb; omega) (by show w.heap.size ≠ d; omega)).mono ?_
  rintro e w' ⟨rfl, n', B', hn', hd', hst⟩
  exact ⟨rfl, n', B', hn', hd', (hf.grown hg).step hst⟩
theorem srd_rd {w : World} {a : Option Addr} {l : List Int} (h : SRd byteE w a l) (hb : ∀ z ∈ l, 0 ≤ z ∧ z ≤ 255) : Rd w a l := by
  refine ⟨?_, hb⟩
  rcases h with h | ⟨b, off, e, h⟩
  · exact .inl h
  · refine .inr ⟨b, off, e, fun i hi => h i _ ?_⟩
    rw [byteE_flat, List.getElem?_map, List.getElem?_eq_getElem hi]
    simp [List.getD, List.getElem?_eq_getElem hi]
theorem SRd.step {w w' : World} {B B' : Nat → Prop} {a : Option Addr} {l : List Int} (h : SRd byteE w a l) (hs : Kept w w' B) (hx : ∀ x, a = some x → x.block < w.heap.size ∧ ¬ B x.block) : SRd byteE w' a l := by
  rcases h with e | ⟨b, off, e, h⟩
  · exact .inl e
  · refine .inr ⟨b, off, e, fun j v hj => ?_⟩
    have hc := h j v hj
    obtain ⟨h1, h2⟩ := hx _ e
    unfold World.cell? at hc ⊢
    rw [hs.block b h1 h2]
    exact hc
def nmA : ByteArray := ⟨#[97]⟩
def nmB : ByteArray := ⟨#[98]⟩
theorem nameA : nameB nmA = true := by decide
theorem nameBB : nameB nmB = true := by decide
def V0 : Cont := fun _ => none
def V1 : Cont := setV V0 nmA (some ([1, 2], 0))
def V2 : Cont := setV V1 nmA (some ([1, 2], 2))
def V3 : Cont := setV V2 nmA (some ([1, 2, 3, 4], 2))
def V4 : Cont := fun t => (V3 t).map (cutV 1)
theorem V4_a : V4 nmA = some ([1, 2, 3], 3) := by
  show (V3 nmA).map (cutV 1) = _
  unfold V3
  rw [setV_same]
  rfl
end Go.Proofs.YtbhffjeoakalbaaGreatDoor
