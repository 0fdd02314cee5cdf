/- Slices of texts: copied, lent, held against one another, kept. -/
import Derived.Test.YtailaehpgmpaaabLabs
namespace Go.Proofs.Ytailaehpgmpaaab
open Go.ChangeShapes Go.WideShapes Go.ChangeAt Go.RowKit
set_option linter.unusedVariables false

def strE : Elem ByteArray where
  cells s := [.string s]
  size := 1
  pos := by decide
  len _ := rfl
  one p v h := by
    simp only [List.mem_cons, List.mem_nil_iff, or_false] at h
    rw [h]; rfl
theorem info9 : (Try.prog.info? 9).map (fun i => (i.zero, i.size, i.bytes)) = some (some (.string ⟨#[]⟩), 1, 16) := by kernel_rfl
theorem strT : ElemOf strE Try.prog 63 9 16 := by
  obtain ⟨i0, hi, hz0, hz1, hz2⟩ := info_parts info9
  exact ⟨Try.underlying63, i0, _, hi, hz0, hz1, hz2, rfl⟩

/-- A slice of texts that the call made. -/
def TOwn (w : World) (base g n cap : Nat) (ss : List ByteArray) : Prop := SOwn strE 9 w base (.slice (some ⟨g, 0, none⟩) n cap) n ss
theorem TOwn.ge {w : World} {base g n cap : Nat} {ss : List ByteArray} (h : TOwn w base g n cap ss) : base ≤ g ∧ g < w.heap.size := SOwn.block h g rfl
theorem TOwn.cap {w : World} {base g n cap : Nat} {ss : List ByteArray} (h : TOwn w base g n cap ss) : n ≤ cap ∧ cap ≤ maxLen := by
  obtain ⟨g', c', e, _, _, h1, h2⟩ := SOwn.some h (by simp)
  simp only [Value.slice.injEq] at e
  obtain ⟨_, _, rfl⟩ := e
  exact ⟨h1, h2⟩
theorem TOwn.rd {w : World} {base g n cap : Nat} {ss : List ByteArray} (h : TOwn w base g n cap ss) : SRd strE w (some ⟨g, 0, none⟩) ss := SOwn.rd h
theorem TOwn.kept {w w' : World} {row : Option Nat} {base g n cap : Nat} {ss : List ByteArray} (h : TOwn w base g n cap ss) (hg : w.grownBy w' row) (hne : some g ≠ row) : TOwn w' base g n cap ss :=
  SOwn.kept h hg (.inr (by simpa [Value.ownBlock] using hne))
theorem TOwn.of {w : World} {base n : Nat} {v : Value} {ss : List ByteArray} (h : SOwn strE 9 w base v n ss) (hn : v ≠ .slice none 0 0) : ∃ g cap, v = .slice (some ⟨g, 0, none⟩) n cap ∧ TOwn w base g n cap ss := by
  obtain ⟨g, cap, rfl, _⟩ := SOwn.some h hn
  exact ⟨g, cap, rfl, h⟩

def ts2 : List ByteArray := [spoilt, spoilt]
theorem tlit (w : World) (ss : List ByteArray) : SRd strE (w.alloc (.cells (strE.flat ss).toArray 9)) (some ⟨w.heap.size, 0, none⟩) ss := by
  refine .inr ⟨w.heap.size, 0, rfl, fun j v hj => ?_⟩
  rw [Nat.zero_add, cell_of_row _ w.heap.size j _ 9 _ (heap_alloc_new w _)]
  simpa using hj

theorem TOwn.head {w : World} {base g n cap : Nat} {xs ys : List ByteArray} (h : TOwn w base g n cap (xs ++ ys)) : SRd strE w (some ⟨g, 0, none⟩) xs := by
  rcases h.rd with h | ⟨b, off, e, h⟩
  · simp at h; rw [h.1]; exact .inl rfl
  · refine .inr ⟨b, off, e, fun j v hj => h j v ?_⟩
    rw [strE.flat_app, List.getElem?_append_left (List.getElem?_eq_some_iff.1 hj).1]
    exact hj
theorem TOwn.tail {w : World} {base g n cap : Nat} {xs ys : List ByteArray} (h : TOwn w base g n cap (xs ++ ys)) : SRd strE w (some ⟨g, xs.length, none⟩) ys := by
  rcases h.rd with h | ⟨b, off, e, h⟩
  · simp at h; rw [h.2]; exact .inl rfl
  · cases e
    refine .inr ⟨g, xs.length, rfl, fun j v hj => ?_⟩
    have h1 := h (xs.length + j) v (by
      rw [strE.flat_app, List.getElem?_append_right (by rw [strE.flat_len]; show xs.length * 1 ≤ _; omega), strE.flat_len]
      rw [show xs.length + j - xs.length * strE.size = j from by show xs.length + j - xs.length * 1 = j; omega]
      exact hj)
    rwa [Nat.zero_add] at h1
def Row1 (w : World) (g cap : Nat) : Prop := ∃ cur : Array Value, w.heap[g]? = some (.cells cur 9 (0, 0)) ∧ cur.size = cap
theorem TOwn.row1 {w : World} {base g n cap : Nat} {ss : List ByteArray} (h : TOwn w base g n cap ss) : Row1 w g cap := by
  rcases h.2 with ⟨h', _⟩ | ⟨g', cap', cur, h', _, h2, _, _, h5, h6⟩
  · simp at h'
  · simp only [Value.slice.injEq, Option.some.injEq, Addr.mk.injEq] at h'
    obtain ⟨⟨rfl, _⟩, _, rfl⟩ := h'
    exact ⟨cur, h2, by rw [h5]; exact Nat.mul_one _⟩
theorem Row1.cells {w : World} {g cap : Nat} (h : Row1 w g cap) (k : Nat) (hk : k < cap) : ∃ v0, w.cell? ⟨g, k, none⟩ = some v0 ∧ w.frozen? ⟨g, k, none⟩ = false := by
  obtain ⟨cur, h1, h2⟩ := h
  refine ⟨_, by rw [cell_of_row w g _ cur 9 _ h1, Array.getElem?_eq_getElem (by omega)], ?_⟩
  simp [World.frozen?, h1]
theorem Row1.set {w : World} {g cap : Nat} (h : Row1 w g cap) (j : Nat) (v : Value) : Row1 (w.setCell ⟨g, j, none⟩ v) g cap := by
  obtain ⟨cur, h1, h2⟩ := h
  exact ⟨cur.setIfInBounds j v, by rw [setCell_eq_setRow w g j cur 9 (0, 0) v h1, setRow_heap w g cur _ 9 _ h1], by simpa using h2⟩

end Go.Proofs.Ytailaehpgmpaaab
