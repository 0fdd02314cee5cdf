/- The world of a row: what the listed variables give; a world in which they lie. -/
import Derived.Test.YtekejnjaiccnbaaGreatDoorCards
import Derived.Test.YtekejnjaiccnbaaGreatDoorTie
import Derived.Test.YtekejnjaiccnbaaGreatDoorWs
import Derived.Deep.DeepHandedRow
import Derived.Deep.DeepWitnessRowRef
import Derived.Lib.LaidTab
namespace Go.Proofs.YtekejnjaiccnbaaGreatDoor
open Go.ChangeShapes Go.WideShapes Go.ChangeAt Go.RowKit
set_option linter.unusedVariables false

theorem laid_tail {P : Program} {W : World} {x : String × DataW Unit} {rest : List (String × DataW Unit)} (h : laidMet P (x :: rest) W) : laidMet P rest W := by
  obtain ⟨ps, ⟨g, t, cs, fuel, p, q, h1, h2, h3, h4, h5, rfl⟩, hn, hb⟩ := h
  exact ⟨q, h5, (List.nodup_append.1 hn).2.1, fun b off hm => hb b off (List.mem_append_right _ hm)⟩
abbrev laidL : List (String × DataW Unit) := [("math/bits.deBruijn32tab", Rows.laid_math_bits_deBruijn32tab), ("math/bits.deBruijn64tab", Rows.laid_math_bits_deBruijn64tab), ("internal/strconv.uint64pow10", Rows.laid_internal_strconv_uint64pow10), ("strconv.ErrRange", Rows.laid_strconv_ErrRange), ("strconv.ErrSyntax", Rows.laid_strconv_ErrSyntax)]
theorem gPow : Tryz.prog.globalNamed "internal/strconv.uint64pow10" = some 2 := by kernel_rfl
theorem gPowT : (Tryz.prog.globals[2]?).map (·.type) = some 214 := by kernel_rfl
theorem cells214 : Tryz.prog.cellsOf 214 = 20 := by kernel_rfl
theorem cells63 : Tryz.prog.cellsOf 63 = 1 := by kernel_rfl
theorem tab_of {W : World} (h : laidMetH Tryz.prog laidL W) : Tab W := by
  have h' : laidMet Tryz.prog laidL W := h
  exact Lib.tabIs_of_head gPow gPowT Tryz.underlying214 Tryz.underlying63 cells63 cells214 (laid_tail (laid_tail h'))
def litV {H : Type} : DataW H → Value
  | .lit (.int k n) => .int k n
  | _ => undef
def cellsV {H : Type} : DataW H → Array Value
  | .agg l => (l.map litV).toArray
  | x => #[litV x]
def laidInto (c : Array Value) : Obj → Obj
  | .cells _ t frozen => .cells c t frozen
  | o => o
/-- A world in which the listed variables lie. -/
noncomputable def laidWorld (os : Os) : World :=
  let N := (World.settled Tryz.prog os).heap.size
  let w0 := World.holding Tryz.prog os ⟨#[.cells #[.string ⟨#[105, 110, 118, 97, 108, 105, 100, 32, 115, 121, 110, 116, 97, 120]⟩] 218, .cells #[.string ⟨#[118, 97, 108, 117, 101, 32, 111, 117, 116, 32, 111, 102, 32, 114, 97, 110, 103, 101]⟩] 218], #[], []⟩
  let h0 := w0.heap.modify 0 (laidInto #[.iface 216 (.pointer (some ⟨N, 0, none⟩))])
  let h1 := h0.modify 1 (laidInto #[.iface 216 (.pointer (some ⟨N + 1, 0, none⟩))])
  let h2 := h1.modify 2 (laidInto (cellsV (H := Unit) Rows.laid_internal_strconv_uint64pow10))
  let h3 := h2.modify 4 (laidInto (cellsV (H := Unit) Rows.laid_math_bits_deBruijn32tab))
  let h4 := h3.modify 5 (laidInto (cellsV (H := Unit) Rows.laid_math_bits_deBruijn64tab))
  { w0 with heap := h4 }
set_option maxRecDepth 100000 in
theorem laid_met (os : Os) (args : Array Value) : laidMet Tryz.prog laidL ((laidWorld os).forCall (fun _ _ => 0) ⟨#[], args, []⟩).memory :=
  laidMet_of_run' 8 (by kernel_rfl) (by kernel_rfl)
end Go.Proofs.YtekejnjaiccnbaaGreatDoor
