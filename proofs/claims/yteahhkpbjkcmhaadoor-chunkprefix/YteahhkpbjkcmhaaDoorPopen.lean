/- Slices of points that come in. -/
import Derived.Test.YteahhkpbjkcmhaaDoorMs
import Derived.Test.YteahhkpbjkcmhaaDoorPnts
import Derived.Test.YteahhkpbjkcmhaaDoorMh
import Derived.Deep.Strs
namespace Go.Proofs.YteahhkpbjkcmhaaDoor
open Go.ChangeShapes Go.WideShapes Go.ChangeAt Go.RowKit
set_option linter.unusedVariables false

theorem cells41 : Tryd.prog.cellsOf 41 = 2 := by kernel_rfl
theorem cells2 : Tryd.prog.cellsOf 2 = 1 := by kernel_rfl
theorem cells38 : Tryd.prog.cellsOf 38 = 1 := by kernel_rfl
theorem bytes41 : Tryd.prog.bytesOf 41 = 16 := by kernel_rfl
section
variable {H : Type} {enc : TypeId × Value → H} {W : World} {a0 : Option Addr} {len0 cap0 : Nat} {d0 : DataW H} {p0 : List MemPlace} {ts : List TypeId} {ds : List (DataW H)}
theorem open_pnts (h0 : DataW.Trod enc Tryd.prog W 0 (fun _ => true) true 22 (.slice a0 len0 cap0) d0 p0) (hsz : (DataW.weightsEach Tryd.prog ts ds).all (· ≤ reachBytes) = true) {j : Nat} (ht : ts[j]? = some 22) (hd : ds[j]? = some d0) :
    ∃ ls : List Pnt, ls.length = len0 ∧ SRd pntE W a0 ls ∧ (a0 = none → cap0 = 0) ∧ ls.length ≤ 8796093021952 ∧ len0 ≤ cap0 ∧ ∀ q ∈ ls, okV q.2 := by
  obtain ⟨ls, h1, h2, h3, h4, h5, h6⟩ := open_structs pntE (S := fun q => okV q.2) Tryd.underlying22 cells41 bytes41 (fun fuel cs x h => by
    obtain ⟨y0, y1, n, rfl, hl, g0, g1⟩ := trod_struct2 Tryd.underlying41 h
    rw [cells41] at hl
    match cs, hl with
    | [c0, c1], _ =>
      simp only [cells2, cells38, List.drop, List.take] at g0 g1
      obtain ⟨s0, e0, rfl, w0⟩ := DataW.trod_int Tryd.underlying2 g0
      obtain ⟨s1, e1, rfl, w1⟩ := DataW.trod_int Tryd.underlying38 g1
      simp only [List.cons.injEq, and_true] at e0 e1
      subst e0; subst e1
      refine ⟨(s0, s1), rfl, fun hw => ?_⟩
      have h := w1
      simp only [Lit.wf, Bool.and_eq_true, decide_eq_true_eq] at h
      have e1 : IntKind.u64.min = 0 := rfl
      have e2 : IntKind.u64.max = 18446744073709551615 := rfl
      have e3 : (2 : Int) ^ 64 = 18446744073709551616 := rfl
      exact ⟨by show 0 ≤ s1; omega, by show s1 < 2 ^ 64; omega⟩) h0 hsz ht hd
  exact ⟨ls, h1, h2, h3, by simp only [reachBytes] at h4; omega, h5, h6⟩
end
end Go.Proofs.YteahhkpbjkcmhaaDoor
