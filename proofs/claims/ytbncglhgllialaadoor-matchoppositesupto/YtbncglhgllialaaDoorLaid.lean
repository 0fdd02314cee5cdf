/- The world of a row: MaxLen is a number; a world in which the listed tables lie. -/
import Derived.Test.YtbncglhgllialaaDoorCards
import Derived.Test.YtbncglhgllialaaDoorTie
import Derived.Test.YtbncglhgllialaaDoorRlk
import Derived.Shelf.Vars
import Derived.Deep.DeepHandedRow
import Derived.Lib.LaidTab
namespace Go.Proofs.YtbncglhgllialaaDoor
open Go.ChangeShapes Go.WideShapes Go.ChangeAt Go.RowKit
set_option linter.unusedVariables false

theorem mx_of {W : World} (h : W.ShapedOpen Tryd.prog) : Mx W := by
  obtain ⟨m, hm⟩ := cell_of_shapedOpen_int (g := 0) (t := 3) (zero := #[.int .i64 0]) (k := .i64) h (by rw [show Tryd.prog.globals.size = 3 from by kernel_rfl]; decide) (by kernel_rfl) rfl (by kernel_rfl) (by kernel_rfl) Tryd.underlying3
  exact ⟨World.block_lt_of_cell? _ _ hm, m, hm⟩
theorem bulk_str {H : Type} (l : List UInt8) : Rows.uptoBulk (DataW.lit (.string l) : DataW H) = l.length + 1 := by rw [Rows.uptoBulk]
def litV {H : Type} : DataW H → Value
  | .lit (.int k n) => .int k n
  | _ => undef
def flatV {H : Type} : DataW H → List Value
  | .agg l => l.map litV
  | x => [litV x]
def cellsV {H : Type} : DataW H → Array Value
  | .agg l => (l.flatMap flatV).toArray
  | x => #[litV x]
def laidInto (c : Array Value) : Obj → Obj
  | .cells _ t frozen => .cells c t frozen
  | o => o
/-- A world in which the two tables lie. -/
noncomputable def laidWorld (os : Os) : World :=
  { World.holding Tryd.prog os ⟨#[], #[], []⟩ with heap := ((World.holding Tryd.prog os ⟨#[], #[], []⟩).heap.modify 1 (laidInto (cellsV Rows.laid_unicode_utf8_first))).modify 2 (laidInto (cellsV (H := Unit) Rows.laid_unicode_utf8_acceptRanges)) }
end Go.Proofs.YtbncglhgllialaaDoor
