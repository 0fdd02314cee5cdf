/- Slices of numbers and of texts that come in. -/
import Derived.Test.YtlmddmfoodejmaaWifs
namespace Go.Proofs.Ytlmddmfoodejmaa
open Go.ChangeShapes Go.WideShapes Go.ChangeAt Go.RowKit
set_option linter.unusedVariables false

def i64E : Elem Int where
  cells z := [.int .i64 z]
  size := 1
  pos := by decide
  len _ := rfl
  one z v h := by
    simp only [List.mem_cons, List.mem_nil_iff, or_false] at h
    subst h
    rfl
theorem cells30 : Try.prog.cellsOf 30 = 1 := by kernel_rfl
theorem bytes30 : Try.prog.bytesOf 30 = 8 := by kernel_rfl
theorem cells3 : Try.prog.cellsOf 3 = 1 := by kernel_rfl
theorem bytes3 : Try.prog.bytesOf 3 = 8 := by kernel_rfl
theorem cells9' : Try.prog.cellsOf 9 = 1 := by kernel_rfl
theorem bytes9' : Try.prog.bytesOf 9 = 16 := by kernel_rfl
theorem open_u64s {H : Type} {enc : TypeId × Value → H} {W : World} {a0 : Option Addr} {len0 cap0 : Nat} {d0 : DataW H} {p0 : List MemPlace} {ts : List TypeId} {ds : List (DataW H)}
    (h0 : DataW.Trod enc Try.prog W 0 (fun _ => true) true 44 (.slice a0 len0 cap0) d0 p0) (hsz : (DataW.weightsEach Try.prog ts ds).all (· ≤ reachBytes) = true) {j : Nat} (ht : ts[j]? = some 44) (hd : ds[j]? = some d0) :
    ∃ zs : List Int, zs.length = len0 ∧ SRd u64E W a0 zs ∧ (∀ z ∈ zs, 0 ≤ z ∧ z ≤ 18446744073709551615) ∧ zs.length ≤ 140737488351232 := by
  obtain ⟨fuel, hf⟩ := h0
  rcases open_ints Try.underlying44 Try.underlying30 cells30 hf with ⟨hcs, _⟩ | ⟨x, l, c, zs, hcs, _, hl, hm, hz, hx, hcell, hwz⟩
  · simp [Value.cells] at hcs
    obtain ⟨rfl, rfl, rfl⟩ := hcs
    exact ⟨[], rfl, SRd.nil _ _, by simp, by simp⟩
  · simp [Value.cells] at hcs
    obtain ⟨rfl, rfl, rfl⟩ := hcs
    simp only [Prod.mk.injEq] at hx
    obtain ⟨rfl, rfl⟩ := hx
    simp only [if_true] at hz
    have hreach := sized_slice hsz ht hd Try.underlying44
    rw [bytes30] at hreach
    simp only [lits, List.length_map, List.length_take, List.length_drop, reachBytes] at hreach
    refine ⟨zs.take len0, by simp; omega, ?_, fun z hz' => ?_, by simp; omega⟩
    · by_cases h0 : len0 = 0
      · left; simp [h0]
      · right
        obtain ⟨b, off, spot⟩ := x
        have hspot : spot = none := by simpa [Addr.add] using World.cell?_spot (hcell 0 (by omega))
        subst hspot
        refine ⟨b, off, rfl, fun q v hq => ?_⟩
        have e : u64E.flat (zs.take len0) = (zs.take len0).map (Value.int .u64) := by
          show (zs.take len0).flatMap (fun s => [Value.int .u64 s]) = _
          rw [List.map_eq_flatMap]
        rw [e, List.getElem?_map] at hq
        have hq1 : q < len0 := by
          obtain ⟨s, hs, _⟩ := (Option.map_eq_some_iff.1 hq)
          have := (List.getElem?_eq_some_iff.1 hs).1
          simp at this; omega
        have := hcell q (by omega)
        rw [add_plain] at this
        rw [this]
        rw [List.getElem?_take, if_pos hq1] at hq
        rw [List.getD_eq_getElem?_getD]
        have hlt : q < zs.length := by omega
        rw [List.getElem?_eq_getElem hlt] at hq ⊢
        simpa using hq
    · have := hwz z (List.mem_of_mem_take hz')
      simp [Lit.wf, IntKind.min, IntKind.max, IntKind.signed, IntKind.bits] at this
      omega
theorem open_i64s {H : Type} {enc : TypeId × Value → H} {W : World} {a0 : Option Addr} {len0 cap0 : Nat} {d0 : DataW H} {p0 : List MemPlace} {ts : List TypeId} {ds : List (DataW H)}
    (h0 : DataW.Trod enc Try.prog W 0 (fun _ => true) true 50 (.slice a0 len0 cap0) d0 p0) (hsz : (DataW.weightsEach Try.prog ts ds).all (· ≤ reachBytes) = true) {j : Nat} (ht : ts[j]? = some 50) (hd : ds[j]? = some d0) :
    ∃ zs : List Int, zs.length = len0 ∧ SRd i64E W a0 zs ∧ (∀ z ∈ zs, -9223372036854775808 ≤ z ∧ z ≤ 9223372036854775807) ∧ zs.length ≤ 140737488351232 := by
  obtain ⟨fuel, hf⟩ := h0
  rcases open_ints Try.underlying50 Try.underlying3 cells3 hf with ⟨hcs, _⟩ | ⟨x, l, c, zs, hcs, _, hl, hm, hz, hx, hcell, hwz⟩
  · simp [Value.cells] at hcs
    obtain ⟨rfl, rfl, rfl⟩ := hcs
    exact ⟨[], rfl, SRd.nil _ _, by simp, by simp⟩
  · simp [Value.cells] at hcs
    obtain ⟨rfl, rfl, rfl⟩ := hcs
    simp only [Prod.mk.injEq] at hx
    obtain ⟨rfl, rfl⟩ := hx
    simp only [if_true] at hz
    have hreach := sized_slice hsz ht hd Try.underlying50
    rw [bytes3] at hreach
    simp only [lits, List.length_map, List.length_take, List.length_drop, reachBytes] at hreach
    refine ⟨zs.take len0, by simp; omega, ?_, fun z hz' => ?_, by simp; omega⟩
    · by_cases h0 : len0 = 0
      · left; simp [h0]
      · right
        obtain ⟨b, off, spot⟩ := x
        have hspot : spot = none := by simpa [Addr.add] using World.cell?_spot (hcell 0 (by omega))
        subst hspot
        refine ⟨b, off, rfl, fun q v hq => ?_⟩
        have e : i64E.flat (zs.take len0) = (zs.take len0).map (Value.int .i64) := by
          show (zs.take len0).flatMap (fun s => [Value.int .i64 s]) = _
          rw [List.map_eq_flatMap]
        rw [e, List.getElem?_map] at hq
        have hq1 : q < len0 := by
          obtain ⟨s, hs, _⟩ := (Option.map_eq_some_iff.1 hq)
          have := (List.getElem?_eq_some_iff.1 hs).1
          simp at this; omega
        have := hcell q (by omega)
        rw [add_plain] at this
        rw [this]
        rw [List.getElem?_take, if_pos hq1] at hq
        rw [List.getD_eq_getElem?_getD]
        have hlt : q < zs.length := by omega
        rw [List.getElem?_eq_getElem hlt] at hq ⊢
        simpa using hq
    · have := hwz z (List.mem_of_mem_take hz')
      exact bounds_i64 this
end Go.Proofs.Ytlmddmfoodejmaa
