/- Slices of labels and of matchers that come in. -/
import Derived.Test.YtbncglhgllialaaDoorSopen
import Derived.Test.YtbncglhgllialaaDoorLabs
import Derived.Test.YtbncglhgllialaaDoorMats
import Derived.Deep.Strs
namespace Go.Proofs.YtbncglhgllialaaDoor
open Go.ChangeShapes Go.WideShapes Go.ChangeAt Go.RowKit
set_option linter.unusedVariables false

theorem cells39 : Tryd.prog.cellsOf 39 = 2 := by kernel_rfl
theorem cells35 : Tryd.prog.cellsOf 35 = 3 := by kernel_rfl
theorem cells9 : Tryd.prog.cellsOf 9 = 1 := by kernel_rfl
theorem cells3 : Tryd.prog.cellsOf 3 = 1 := by kernel_rfl
theorem bytes39 : Tryd.prog.bytesOf 39 = 32 := by kernel_rfl
theorem bytes35 : Tryd.prog.bytesOf 35 = 40 := by kernel_rfl
def SmallLab (q : Lab) : Prop := q.1.size ≤ 140737488351232 ∧ q.2.size ≤ 140737488351232
def SmallMat (q : Mat) : Prop := (IntKind.i64.min ≤ q.1 ∧ q.1 ≤ IntKind.i64.max) ∧ q.2.1.size ≤ 140737488351232 ∧ q.2.2.size ≤ 140737488351232

section
variable {H : Type} {enc : TypeId × Value → H} {W : World} {a0 : Option Addr} {len0 cap0 : Nat} {d0 : DataW H} {p0 : List MemPlace} {ts : List TypeId} {ds : List (DataW H)}
theorem open_labs (h0 : DataW.Trod enc Tryd.prog W 0 (fun _ => true) true 23 (.slice a0 len0 cap0) d0 p0) (hsz : (DataW.weightsEach Tryd.prog ts ds).all (· ≤ reachBytes) = true) {j : Nat} (ht : ts[j]? = some 23) (hd : ds[j]? = some d0) :
    ∃ ls : List Lab, ls.length = len0 ∧ SRd labE W a0 ls ∧ (a0 = none → cap0 = 0) ∧ ls.length ≤ 4398046510976 ∧ len0 ≤ cap0 ∧ ∀ q ∈ ls, SmallLab q := by
  obtain ⟨ls, h1, h2, h3, h4, h5, h6⟩ := open_structs labE (S := SmallLab) Tryd.underlying23 cells39 bytes39 (fun fuel cs x h => by
    obtain ⟨y0, y1, n, rfl, hl, g0, g1⟩ := trod_struct2 Tryd.underlying39 h
    rw [cells39] at hl
    match cs, hl with
    | [c0, c1], _ =>
      simp only [cells9, List.drop, List.take] at g0 g1
      obtain ⟨s0, e0, rfl, _⟩ := DataW.trod_string Tryd.underlying9 g0
      obtain ⟨s1, e1, rfl, _⟩ := DataW.trod_string Tryd.underlying9 g1
      simp only [List.cons.injEq, and_true] at e0 e1
      subst e0; subst e1
      refine ⟨(s0, s1), rfl, fun hw => ?_⟩
      simp [DataW.weights, DataW.weightsEach, Tryd.underlying39, reachBytes] at hw
      exact hw) h0 hsz ht hd
  exact ⟨ls, h1, h2, h3, by simp only [reachBytes] at h4; omega, h5, h6⟩
theorem open_mats (h0 : DataW.Trod enc Tryd.prog W 0 (fun _ => true) true 22 (.slice a0 len0 cap0) d0 p0) (hsz : (DataW.weightsEach Tryd.prog ts ds).all (· ≤ reachBytes) = true) {j : Nat} (ht : ts[j]? = some 22) (hd : ds[j]? = some d0) :
    ∃ ls : List Mat, ls.length = len0 ∧ SRd matE W a0 ls ∧ (a0 = none → cap0 = 0) ∧ ls.length ≤ 3518437208780 ∧ len0 ≤ cap0 ∧ ∀ q ∈ ls, SmallMat q := by
  obtain ⟨ls, h1, h2, h3, h4, h5, h6⟩ := open_structs matE (S := SmallMat) Tryd.underlying22 cells35 bytes35 (fun fuel cs x h => by
    obtain ⟨y0, y1, y2, n, rfl, hl, g0, g1, g2⟩ := Go.Deep.trod_struct3 Tryd.underlying35 h
    rw [cells35] at hl
    match cs, hl with
    | [c0, c1, c2], _ =>
      simp only [cells9, cells3, List.drop, List.take] at g0 g1 g2
      obtain ⟨s0, e0, rfl, w0⟩ := DataW.trod_int Tryd.underlying3 g0
      obtain ⟨s1, e1, rfl, _⟩ := DataW.trod_string Tryd.underlying9 g1
      obtain ⟨s2, e2, rfl, _⟩ := DataW.trod_string Tryd.underlying9 g2
      simp only [List.cons.injEq, and_true] at e0 e1 e2
      subst e0; subst e1; subst e2
      refine ⟨(s0, s1, s2), rfl, fun hw => ?_⟩
      simp [DataW.weights, DataW.weightsEach, Tryd.underlying35, reachBytes] at hw
      exact ⟨by simpa [Lit.wf] using w0, hw⟩) h0 hsz ht hd
  exact ⟨ls, h1, h2, h3, by simp only [reachBytes] at h4; omega, h5, h6⟩
end
end Go.Proofs.YtbncglhgllialaaDoor
