/- Slices of texts that come in, with what is known of their sizes. -/
import Derived.Test.YtlmddmfoodejmaaFo
import Derived.SliceStrings
namespace Go.Proofs.Ytlmddmfoodejmaa
open Go.ChangeShapes Go.WideShapes Go.ChangeAt Go.RowKit
set_option linter.unusedVariables false

theorem open_strs {H : Type} {enc : TypeId × Value → H} {W : World} {a0 : Option Addr} {len0 cap0 : Nat} {d0 : DataW H} {p0 : List MemPlace} {ts : List TypeId} {ds : List (DataW H)}
    (h0 : DataW.Trod enc Try.prog W 0 (fun _ => true) true 41 (.slice a0 len0 cap0) d0 p0) (hsz : (DataW.weightsEach Try.prog ts ds).all (· ≤ reachBytes) = true) {j : Nat} (ht : ts[j]? = some 41) (hd : ds[j]? = some d0) :
    ∃ ss : List ByteArray, ss.length = len0 ∧ SRd strE W a0 ss ∧ (∀ s ∈ ss, (s.size : Int) ≤ 9223372036854775807) ∧ ss.length ≤ 140737488351232 := by
  obtain ⟨fuel, hf⟩ := h0
  rcases open_strings Try.underlying41 Try.underlying9 cells9' hf with ⟨hcs, _⟩ | ⟨x, l, c, ss, hcs, _, hl, hm, hz, hx, hcell, hmax⟩
  · simp [Value.cells] at hcs
    obtain ⟨rfl, rfl, rfl⟩ := hcs
    exact ⟨[], rfl, SRd.nil _ _, by simp, by simp⟩
  · simp [Value.cells] at hcs
    obtain ⟨rfl, rfl, rfl⟩ := hcs
    simp only [if_true] at hz
    simp only [Prod.mk.injEq] at hx
    obtain ⟨rfl, rfl⟩ := hx
    have hreach := sized_slice hsz ht hd Try.underlying41
    rw [bytes9'] at hreach
    simp only [strs, List.length_map, List.length_take, List.length_drop, reachBytes] at hreach
    refine ⟨ss.take len0, by simp; omega, ?_, fun s hs => ?_, by simp; omega⟩
    · by_cases h0 : len0 = 0
      · left; simp [h0]
      · right
        obtain ⟨b, off, spot⟩ := x
        have hspot : spot = none := by simpa [Addr.add] using World.cell?_spot (hcell 0 (by omega))
        subst hspot
        refine ⟨b, off, rfl, fun q v hq => ?_⟩
        have e : strE.flat (ss.take len0) = (ss.take len0).map Value.string := by
          show (ss.take len0).flatMap (fun s => [Value.string s]) = _
          rw [List.map_eq_flatMap]
        rw [e, List.getElem?_map] at hq
        have hq1 : q < len0 := by
          obtain ⟨s, hs, _⟩ := (Option.map_eq_some_iff.1 hq)
          have := (List.getElem?_eq_some_iff.1 hs).1
          simp at this; omega
        have := hcell q (by omega)
        rw [add_plain] at this
        rw [this]
        rw [List.getElem?_take, if_pos hq1] at hq
        rw [List.getD_eq_getElem?_getD]
        have hlt : q < ss.length := by omega
        rw [List.getElem?_eq_getElem hlt] at hq ⊢
        simpa using hq
    · have := hmax s (List.mem_of_mem_take hs)
      unfold maxLen at this
      omega
end Go.Proofs.Ytlmddmfoodejmaa
