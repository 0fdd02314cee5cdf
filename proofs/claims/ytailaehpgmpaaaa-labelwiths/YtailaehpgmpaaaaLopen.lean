/- Slices of labels and of texts that come in. -/
import Derived.Test.YtailaehpgmpaaaaTxts
import Derived.Deep.SlicePairs
import Derived.SliceStrings
namespace Go.Proofs.Ytailaehpgmpaaaa
open Go.ChangeShapes Go.WideShapes Go.ChangeAt Go.RowKit
set_option linter.unusedVariables false

theorem cells52 : Try.prog.cellsOf 52 = 2 := by kernel_rfl
theorem cells9 : Try.prog.cellsOf 9 = 1 := by kernel_rfl
theorem bytes52 : Try.prog.bytesOf 52 = 32 := by kernel_rfl
theorem bytes9 : Try.prog.bytesOf 9 = 16 := by kernel_rfl
def strv : Value → ByteArray
  | .string s => s
  | _ => ⟨#[]⟩

theorem open_labs {H : Type} {enc : TypeId × Value → H} {W : World} {a0 : Option Addr} {len0 cap0 : Nat} {d0 : DataW H} {p0 : List MemPlace} {ts : List TypeId} {ds : List (DataW H)}
    (h0 : DataW.Trod enc Try.prog W 0 (fun _ => true) true 22 (.slice a0 len0 cap0) d0 p0) (hsz : (DataW.weightsEach Try.prog ts ds).all (· ≤ reachBytes) = true) {j : Nat} (ht : ts[j]? = some 22) (hd : ds[j]? = some d0) :
    ∃ ls : List Lab, ls.length = len0 ∧ SRd labE W a0 ls ∧ (a0 = none → cap0 = 0) ∧ ls.length ≤ 4398046510976 ∧ len0 ≤ cap0 := by
  obtain ⟨fuel, hf⟩ := h0
  rcases Go.Deep.open_slice_pairs Try.underlying22 Try.underlying52 cells52 rfl rfl cells9 cells9 hf with ⟨hcs, _⟩ | ⟨x, l, c, m, k, V0, V1, D0, D1, P0, P1, hcs, _, hl, hm, hmm, hx, hall⟩
  · simp [Value.cells] at hcs
    obtain ⟨rfl, rfl, rfl⟩ := hcs
    exact ⟨[], rfl, SRd.nil _ _, fun _ => rfl, by simp, Nat.le_refl _⟩
  · simp [Value.cells] at hcs
    obtain ⟨rfl, rfl, rfl⟩ := hcs
    simp only [if_true] at hmm
    simp only [Prod.mk.injEq] at hx
    obtain ⟨rfl, rfl⟩ := hx
    have hreach := sized_slice hsz ht hd Try.underlying22
    rw [bytes52] at hreach
    simp only [List.length_map, List.length_range, reachBytes] at hreach
    have hs : ∀ i, i < len0 → V0 i = .string (strv (V0 i)) ∧ V1 i = .string (strv (V1 i)) := by
      intro i hi
      obtain ⟨_, _, g0, g1⟩ := hall i (by omega)
      obtain ⟨s, e, _⟩ := DataW.trod_string Try.underlying9 g0
      obtain ⟨s', e', _⟩ := DataW.trod_string Try.underlying9 g1
      simp only [List.cons.injEq, and_true] at e e'
      rw [e, e']
      exact ⟨rfl, rfl⟩
    refine ⟨(List.range len0).map (fun i => (strv (V0 i), strv (V1 i))), by simp, ?_, by simp, by simp; omega, hl⟩
    by_cases h0 : len0 = 0
    · left; simp [h0]
    · right
      obtain ⟨b, off, spot⟩ := x
      have hspot : spot = none := by simpa [Addr.add] using World.cell?_spot (hall 0 (by omega)).1
      subst hspot
      refine ⟨b, off, rfl, fun q v hq => ?_⟩
      have hlen : q < len0 * 2 := by
        have h1 := (List.getElem?_eq_some_iff.1 hq).1
        rw [labE.flat_len, List.length_map, List.length_range] at h1
        exact h1
      have hi : q / 2 < len0 := by omega
      have hg := labE.flat_get ((List.range len0).map (fun i => (strv (V0 i), strv (V1 i)))) (q / 2) (strv (V0 (q / 2)), strv (V1 (q / 2))) (q % 2) (by simp [hi]) (Nat.mod_lt _ (by decide))
      rw [show q / 2 * labE.size + q % 2 = q from by show q / 2 * 2 + q % 2 = q; omega, hq] at hg
      obtain ⟨c0, c1, _⟩ := hall (q / 2) (by omega)
      rw [add_plain] at c0 c1
      obtain ⟨e0, e1⟩ := hs (q / 2) hi
      rcases Nat.mod_two_eq_zero_or_one q with hm2 | hm2
      · rw [hm2] at hg
        have hv : v = .string (strv (V0 (q / 2))) := by simpa [labE] using hg
        rw [hv, ← e0, show off + q = off + q / 2 * 2 by omega]
        exact c0
      · rw [hm2] at hg
        have hv : v = .string (strv (V1 (q / 2))) := by simpa [labE] using hg
        rw [hv, ← e1, show off + q = off + (q / 2 * 2 + 1) by omega]
        exact c1
theorem open_texts {H : Type} {enc : TypeId × Value → H} {W : World} {a0 : Option Addr} {len0 cap0 : Nat} {d0 : DataW H} {p0 : List MemPlace} {ts : List TypeId} {ds : List (DataW H)}
    (h0 : DataW.Trod enc Try.prog W 0 (fun _ => true) true 40 (.slice a0 len0 cap0) d0 p0) (hsz : (DataW.weightsEach Try.prog ts ds).all (· ≤ reachBytes) = true) {j : Nat} (ht : ts[j]? = some 40) (hd : ds[j]? = some d0) :
    ∃ ss : List ByteArray, ss.length = len0 ∧ SRd strE W a0 ss ∧ (a0 = none → cap0 = 0) ∧ ss.length ≤ 8796093021952 ∧ len0 ≤ cap0 := by
  obtain ⟨fuel, hf⟩ := h0
  rcases open_strings Try.underlying40 Try.underlying9 cells9 hf with ⟨hcs, _⟩ | ⟨x, l, c, ss, hcs, _, hl, hm, hz, hx, hcell, _⟩
  · simp [Value.cells] at hcs
    obtain ⟨rfl, rfl, rfl⟩ := hcs
    exact ⟨[], rfl, SRd.nil _ _, fun _ => rfl, by simp, Nat.le_refl _⟩
  · simp [Value.cells] at hcs
    obtain ⟨rfl, rfl, rfl⟩ := hcs
    simp only [if_true] at hz
    simp only [Prod.mk.injEq] at hx
    obtain ⟨rfl, rfl⟩ := hx
    have hreach := sized_slice hsz ht hd Try.underlying40
    rw [bytes9] at hreach
    simp only [strs, List.length_map, List.length_take, List.length_drop, reachBytes] at hreach
    refine ⟨ss.take len0, by simp; omega, ?_, by simp, by simp; omega, hl⟩
    by_cases h0 : len0 = 0
    · left; simp [h0]
    · right
      obtain ⟨b, off, spot⟩ := x
      have hspot : spot = none := by simpa [Addr.add] using World.cell?_spot (hcell 0 (by omega))
      subst hspot
      refine ⟨b, off, rfl, fun q v hq => ?_⟩
      have e : strE.flat (ss.take len0) = (ss.take len0).map Value.string := by
        show (ss.take len0).flatMap (fun s => [Value.string s]) = _
        rw [List.map_eq_flatMap]
      rw [e, List.getElem?_map] at hq
      have hq1 : q < len0 := by
        have := (Option.map_eq_some_iff.1 hq)
        obtain ⟨s, hs, _⟩ := this
        have := (List.getElem?_eq_some_iff.1 hs).1
        simp at this; omega
      have := hcell q (by omega)
      rw [add_plain] at this
      rw [this]
      rw [List.getElem?_take, if_pos hq1] at hq
      rw [List.getD_eq_getElem?_getD]
      have hlt : q < ss.length := by omega
      rw [List.getElem?_eq_getElem hlt] at hq ⊢
      simpa using hq
end Go.Proofs.Ytailaehpgmpaaaa
