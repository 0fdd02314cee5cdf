/- Texts in order: what a sorted list of names is by its members. -/
import Derived.Test.YtbhffjeoakalbaaGreatDoorDk19
namespace Go.Proofs.YtbhffjeoakalbaaGreatDoor
open Go.RowKit Go.Maps
set_option linter.unusedVariables false

theorem u8_le_trans (a b c : List UInt8) : decide (a ≤ b) = true → decide (b ≤ c) = true → decide (a ≤ c) = true := by
  simp only [decide_eq_true_eq]
  exact List.le_trans
theorem u8_le_total (a b : List UInt8) : (decide (a ≤ b) || decide (b ≤ a)) = true := by
  simp only [Bool.or_eq_true, decide_eq_true_eq]
  exact List.le_total a b
theorem srt_pair (l : List ByteArray) : (srt l).Pairwise fun x y => x.data.toList ≤ y.data.toList := by
  unfold srt
  rw [List.pairwise_map]
  have h := List.pairwise_mergeSort (le := fun x y : List UInt8 => decide (x ≤ y)) u8_le_trans u8_le_total (l.map fun s => s.data.toList)
  exact h.imp (fun hab => by simpa using hab)
theorem ba_ext {x y : ByteArray} (h : x.data.toList = y.data.toList) : x = y := by
  cases x; cases y; congr 1; exact Array.toList_inj.1 h
theorem srt_perm (l : List ByteArray) : (srt l).Perm l := by
  unfold srt
  have h := (List.mergeSort_perm (l.map fun s => s.data.toList) fun x y => decide (x ≤ y)).map fun b => (⟨b.toArray⟩ : ByteArray)
  rw [List.map_map] at h
  have e : (fun s => (⟨s.data.toList.toArray⟩ : ByteArray)) = (id : ByteArray → ByteArray) := by funext s; rfl
  refine h.trans ?_
  have e2 : ((fun b => (⟨b.toArray⟩ : ByteArray)) ∘ fun s : ByteArray => s.data.toList) = id := e
  rw [e2, List.map_id]
/-- A list of texts in order is told by its members. -/
theorem srt_eq {l l' : List ByteArray} (h : l.Nodup) (h' : l'.Nodup) (hm : ∀ s, s ∈ l ↔ s ∈ l') : srt l = srt l' := by
  have hp : l.Perm l' := (List.perm_ext_iff_of_nodup h h').2 hm
  refine List.Perm.eq_of_pairwise (le := fun x y : ByteArray => x.data.toList ≤ y.data.toList) ?_ (srt_pair l) (srt_pair l') (((srt_perm l).trans hp).trans (srt_perm l').symm)
  intro a b _ _ h1 h2
  exact ba_ext (List.le_antisymm h1 h2)
/-- A list that is in order already. -/
theorem srt_self {l : List ByteArray} (h : l.Pairwise fun x y => x.data.toList ≤ y.data.toList) : srt l = l := by
  refine List.Perm.eq_of_pairwise (le := fun x y : ByteArray => x.data.toList ≤ y.data.toList) ?_ (srt_pair l) h (srt_perm l)
  intro a b _ _ h1 h2
  exact ba_ext (List.le_antisymm h1 h2)
theorem srt_nodup {l : List ByteArray} (h : l.Nodup) : (srt l).Nodup := (srt_perm l).nodup_iff.2 h
end Go.Proofs.YtbhffjeoakalbaaGreatDoor
