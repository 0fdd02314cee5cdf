/- The program's readers: text, record; Text, Unframe. -/
import Derived.Test.YtbhffjeoakalbaaGreatDoorDnext
import Derived.Test.YtbhffjeoakalbaaGreatDoorDput
namespace Go.Proofs.YtbhffjeoakalbaaGreatDoor
open Go.RowKit
set_option linter.unusedVariables false

theorem str_empty : strOfNums [] = ⟨#[]⟩ := rfl

theorem textR_err {zs : List Int} {p r2 r3 : Int} {s : ByteArray} (h : textR zs p = (s, r2, r3)) (h3 : r3 ≠ 0) : s = ⟨#[]⟩ ∧ r2 = 0 := by
  unfold textR at h
  split at h
  · split at h
    · simp only [Prod.mk.injEq] at h
      exact ⟨h.1.symm, h.2.1.symm⟩
    · simp only [Prod.mk.injEq] at h
      exact absurd h.2.2.symm h3
  · simp only [Prod.mk.injEq] at h
    exact ⟨h.1.symm, h.2.1.symm⟩
theorem fresh_ne {w : World} {a : Option Addr} {zs : List Int} {L : Nat} (hr : Rd w a zs) (hL : zs.length = L) : 0 < L → ∀ x, a = some x → x.block ≠ w.heap.size := by
  intro h0 x hx
  obtain ⟨b, off, e, hc⟩ := hr.at (by omega)
  rw [e] at hx
  cases hx
  have := World.block_lt_of_cell? w _ (hc 0 (by omega))
  simp only at this
  intro e
  simp only at e
  omega

end Go.Proofs.YtbhffjeoakalbaaGreatDoor
