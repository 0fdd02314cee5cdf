/- What comes in: nodes, and how long their texts are. -/
import Derived.Test.YthbodkgcbfplgaaGreatYj
namespace Go.Proofs.YthbodkgcbfplgaaGreat
open Go.ChangeShapes Go.WideShapes Go.ChangeAt Go.RowKit
set_option linter.unusedVariables false
set_option maxRecDepth 20000

section
variable {H : Type} {enc : TypeId × Value → H} {W : World}
theorem step37t (fuel : Nat) (cs : List Value) (x : DataW H × List MemPlace) (h : DataW.trod enc Tryz.prog W 0 (fun _ => true) true fuel 37 cs = some x) : ∃ q : Row, cs = ndE.cells q ∧ ((∀ n ∈ x.1.weights Tryz.prog 37, n ≤ reachBytes) → NdIn W q ∧ q.1.text.size ≤ 9223372036854775807) := by
  obtain ⟨y0, y1, y2, y3, y4, y5, y6, y7, y8, y9, n, hx, hl, g0, g1, g2, g3, g4, g5, g6, g7, g8, g9⟩ := trod_struct10 Tryz.underlying37 h
  rw [cellsN37] at hl
  match cs, hl with
  | [c0, c1, c2, c3, c4, c5, c6, c7, c8, c9], _ =>
    simp only [cellsN9, cellsN3, cellsN2, cellsN4, cellsN34, cellsN35, List.drop, List.take] at g0 g1 g2 g3 g4 g5 g6 g7 g8 g9
    obtain ⟨s0, e0, -, _⟩ := DataW.trod_int Tryz.underlying3 g0
    obtain ⟨s1, e1, -, _⟩ := DataW.trod_int Tryz.underlying3 g1
    obtain ⟨s2, e2, -, hz2⟩ := DataW.trod_string Tryz.underlying9 g2
    obtain ⟨ma, mn, mc, e3, hms⟩ := open_cells matE (S := fun _ => True) Tryz.underlying34 cellsN54 bytesN54 step54 g3
    obtain ⟨s4, e4, -, _⟩ := DataW.trod_int Tryz.underlying2 g4
    obtain ⟨s5, e5, -, _⟩ := DataW.trod_int Tryz.underlying2 g5
    obtain ⟨s6, e6, -, _⟩ := DataW.trod_int Tryz.underlying3 g6
    obtain ⟨na, nn, nc, e7, hns⟩ := open_cells strE (S := fun _ => True) Tryz.underlying35 cellsN9 bytesN9 step9 g7
    obtain ⟨s8, e8, -⟩ := DataW.trod_bool Tryz.underlying4 g8
    obtain ⟨s9, e9, -, _⟩ := DataW.trod_int Tryz.underlying3 g9
    simp only [List.cons.injEq, and_true] at e0 e1 e2 e3 e4 e5 e6 e7 e8 e9
    subst e0; subst e1; subst e2; subst e3; subst e4; subst e5; subst e6; subst e7; subst e8; subst e9
    by_cases hw : ∀ n ∈ x.1.weights Tryz.prog 37, n ≤ reachBytes
    · obtain ⟨ms, k1, k2, k3, k4, k5, -⟩ := hms (fun n hn => hw n (by
        rw [hx]
        simp only [DataW.weights, Tryz.underlying37]
        simp [DataW.weightsEach, hn]))
      obtain ⟨ns, l1, l2, l3, l4, l5, -⟩ := hns (fun n hn => hw n (by
        rw [hx]
        simp only [DataW.weights, Tryz.underlying37]
        simp [DataW.weightsEach, hn]))
      have k4' := k4
      have l4' := l4
      simp only [reachBytes] at k4' l4'
      subst k1; subst l1
      exact ⟨(⟨s0, s1, s2, ms, s4, s5, s6, ns, s8, s9⟩, (ma, ms.length, mc), (na, ns.length, nc)), rfl, fun _ => ⟨⟨⟨k2, rfl, l2, rfl, by simp only; omega, by simp only; omega⟩, k3, l3, k4, l4⟩, by unfold maxLen at hz2; show s2.size ≤ _; omega⟩⟩
    · exact ⟨(⟨s0, s1, s2, [], s4, s5, s6, [], s8, s9⟩, (ma, mn, mc), (na, nn, nc)), rfl, fun h => absurd h hw⟩
theorem open_nodesT {a0 : Option Addr} {len0 cap0 : Nat} {d0 : DataW H} {p0 : List MemPlace} {ts : List TypeId} {ds : List (DataW H)} (h0 : DataW.Trod enc Tryz.prog W 0 (fun _ => true) true 22 (.slice a0 len0 cap0) d0 p0)
    (hsz : (DataW.weightsEach Tryz.prog ts ds).all (· ≤ reachBytes) = true) {j : Nat} (ht : ts[j]? = some 22) (hd : ds[j]? = some d0) : ∃ Q : List Row, len0 = Q.length ∧ NsIn W a0 cap0 Q ∧ ∀ q ∈ Q, q.1.text.size ≤ 9223372036854775807 := by
  obtain ⟨fuel, hf⟩ := h0
  obtain ⟨a1, l1, c1, e, hls⟩ := open_cells ndE (S := fun q => NdIn W q ∧ q.1.text.size ≤ 9223372036854775807) Tryz.underlying22 cellsN37 bytesN37 step37t hf
  simp [Value.cells] at e
  obtain ⟨rfl, rfl, rfl⟩ := e
  obtain ⟨Q, k1, k2, k3, k4, k5, k6⟩ := hls (fun n hn => by
    simpa using List.all_eq_true.1 hsz _ (DataW.weights_mem_each ht hd n hn))
  subst k1
  exact ⟨Q, rfl, ⟨k2, fun q hq => (k6 q hq).1, k3, k4⟩, fun q hq => (k6 q hq).2⟩
end
end Go.Proofs.YthbodkgcbfplgaaGreat
