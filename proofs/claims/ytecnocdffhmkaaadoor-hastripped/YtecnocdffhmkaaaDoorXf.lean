/- The world of a row: what the listed variables give; a world in which they lie. -/
import Derived.Test.YtecnocdffhmkaaaDoorCards
import Derived.Test.YtecnocdffhmkaaaDoorTie
import Derived.Test.YtecnocdffhmkaaaDoorHe
import Derived.Deep.DeepHandedRow
import Derived.Deep.DeepWitnessRowRef
import Derived.Lib.LaidTab
namespace Go.Proofs.YtecnocdffhmkaaaDoor
open Go.ChangeShapes Go.WideShapes Go.ChangeAt Go.RowKit
set_option linter.unusedVariables false

theorem laid_tail {P : Program} {W : World} {x : String × DataW Unit} {rest : List (String × DataW Unit)} (h : laidMet P (x :: rest) W) : laidMet P rest W := by
  obtain ⟨ps, ⟨g, t, cs, fuel, p, q, h1, h2, h3, h4, h5, rfl⟩, hn, hb⟩ := h
  exact ⟨q, h5, (List.nodup_append.1 hn).2.1, fun b off hm => hb b off (List.mem_append_right _ hm)⟩
abbrev laidL : List (String × DataW Unit) := [("math/bits.deBruijn32tab", Rows.laid_math_bits_deBruijn32tab), ("math/bits.deBruijn64tab", Rows.laid_math_bits_deBruijn64tab), ("internal/strconv.uint64pow10", Rows.laid_internal_strconv_uint64pow10)]
theorem gPow : Tryd.prog.globalNamed "internal/strconv.uint64pow10" = some 0 := by kernel_rfl
theorem gPowT : (Tryd.prog.globals[0]?).map (·.type) = some 115 := by kernel_rfl
theorem cellsP : Tryd.prog.cellsOf 115 = 20 := by kernel_rfl
theorem cellsU : Tryd.prog.cellsOf 45 = 1 := by kernel_rfl
theorem tab_of {W : World} (h : laidMetH Tryd.prog laidL W) : Tab W := by
  have h' : laidMet Tryd.prog laidL W := h
  exact Lib.tabIs_of_head gPow gPowT Tryd.underlying115 Tryd.underlying45 cellsU cellsP (laid_tail (laid_tail h'))
def litV {H : Type} : DataW H → Value
  | .lit (.int k n) => .int k n
  | _ => undef
def cellsV {H : Type} : DataW H → Array Value
  | .agg l => (l.map litV).toArray
  | x => #[litV x]
def laidInto (c : Array Value) : Obj → Obj
  | .cells _ t frozen => .cells c t frozen
  | o => o
/-- A world in which the listed variables lie. -/
noncomputable def laidWorld (os : Os) : World :=
  let w0 := World.holding Tryd.prog os ⟨#[], #[], []⟩
  let h2 := w0.heap.modify 0 (laidInto (cellsV (H := Unit) Rows.laid_internal_strconv_uint64pow10))
  let h3 := h2.modify 1 (laidInto (cellsV (H := Unit) Rows.laid_math_bits_deBruijn32tab))
  let h4 := h3.modify 2 (laidInto (cellsV (H := Unit) Rows.laid_math_bits_deBruijn64tab))
  { w0 with heap := h4 }
set_option maxRecDepth 100000 in
theorem laid_met (os : Os) (args : Array Value) : laidMet Tryd.prog laidL ((laidWorld os).forCall (fun _ _ => 0) ⟨#[], args, []⟩).memory :=
  laidMet_of_run' 8 (by kernel_rfl) (by kernel_rfl)
end Go.Proofs.YtecnocdffhmkaaaDoor
