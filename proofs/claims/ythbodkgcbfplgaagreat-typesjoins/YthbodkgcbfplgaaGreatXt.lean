/- A node by itself behind a list. -/
import Derived.Test.YthbodkgcbfplgaaGreatXj
namespace Go.Proofs.YthbodkgcbfplgaaGreat
open Go.ChangeShapes Go.WideShapes Go.ChangeAt Go.RowKit
set_option linter.unusedVariables false
set_option linter.unusedSimpArgs false
set_option maxRecDepth 20000

theorem bare_rd (W : World) (x : Nd) (hm : x.mat = []) (hn : x.names = []) : NdRd W (x, (none, 0, 0), (none, 0, 0)) :=
  ⟨.inl hm, by rw [hm]; rfl, .inl hn, by rw [hn]; rfl, by rw [hm]; show (0 : Nat) ≤ _; omega, by rw [hn]; show (0 : Nat) ≤ _; omega⟩
/-- A node by itself behind a list that was made. -/
theorem NsMk.one {W0 w w' : World} {v v' : Value} {L : List Row} {x : Nd} (h : NsMk W0 w v L) (hm : x.mat = []) (hn : x.names = []) (ho : SOwn ndE 37 w' W0.heap.size v' (L.length + 1) (L ++ [(x, (none, 0, 0), (none, 0, 0))])) (hg : w.grownBy w' v.ownBlock) : NsMk W0 w' v' (L ++ [(x, (none, 0, 0), (none, 0, 0))]) :=
  h.app (fun q hq => .inl (by rw [List.mem_singleton.1 hq]; exact bare_rd _ _ hm hn)) ho hg
theorem NsMk.slN {W0 w : World} {v : Value} {L : List Row} {n : Nat} (h : NsMk W0 w v L) (hn : L.length = n) : ∃ a c, v = .slice a n c := by
  obtain ⟨a, c, e⟩ := h.sl
  exact ⟨a, c, by rw [e, hn]⟩
end Go.Proofs.YthbodkgcbfplgaaGreat
