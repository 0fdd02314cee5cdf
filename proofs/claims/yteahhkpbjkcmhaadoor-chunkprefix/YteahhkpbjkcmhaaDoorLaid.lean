/- The world of a row: the table of the forms lies where the program has it; a world in which it does. -/
import Derived.Test.YteahhkpbjkcmhaaDoorCards
import Derived.Test.YteahhkpbjkcmhaaDoorTie
import Derived.Test.YteahhkpbjkcmhaaDoorDform
import Derived.Deep.DeepHandedRow
import Derived.Deep.Strs
import Derived.Lib.LaidTab
namespace Go.Proofs.YteahhkpbjkcmhaaDoor
open Go.ChangeShapes Go.WideShapes Go.ChangeAt Go.RowKit
set_option linter.unusedVariables false

theorem cells86 : Tryd.prog.cellsOf 87 = 3 := by kernel_rfl
theorem cells87 : Tryd.prog.cellsOf 88 = 15 := by kernel_rfl
theorem cells_3 : Tryd.prog.cellsOf 3 = 1 := by kernel_rfl
theorem cells_38 : Tryd.prog.cellsOf 38 = 1 := by kernel_rfl
theorem form_cells {H : Type} {enc : TypeId × Value → H} {W : World} {base : Nat} {sp : Nat → Bool} {held : Bool} {fuel : Nat} {cs : List Value} {x : DataW H × List MemPlace} {a b c : Int}
    (h : DataW.trod enc Tryd.prog W base sp held fuel 87 cs = some x) (hx : x.1 = .agg [.lit (.int .u64 a), .lit (.int .i64 b), .lit (.int .i64 c)]) : cs = [.int .u64 a, .int .i64 b, .int .i64 c] := by
  obtain ⟨y0, y1, y2, n, rfl, hl, g0, g1, g2⟩ := Go.Deep.trod_struct3 Tryd.underlying87 h
  rw [cells86] at hl
  match cs, hl with
  | [c0, c1, c2], _ =>
    simp only [cells_3, cells_38, List.drop, List.take] at g0 g1 g2
    obtain ⟨s0, e0, rfl, _⟩ := DataW.trod_int Tryd.underlying38 g0
    obtain ⟨s1, e1, rfl, _⟩ := DataW.trod_int Tryd.underlying3 g1
    obtain ⟨s2, e2, rfl, _⟩ := DataW.trod_int Tryd.underlying3 g2
    simp only [List.cons.injEq, and_true] at e0 e1 e2
    subst e0; subst e1; subst e2
    simp only [DataW.agg.injEq, List.cons.injEq, DataW.lit.injEq, Lit.int.injEq, true_and, and_true] at hx
    obtain ⟨rfl, rfl, rfl⟩ := hx
    rfl
theorem table_cells {H : Type} {enc : TypeId × Value → H} {W : World} {base : Nat} {sp : Nat → Bool} {held : Bool} {fuel : Nat} {cs : List Value} {p : List MemPlace}
    (h : DataW.trod enc Tryd.prog W base sp held fuel 88 cs = some (Rows.laid_tidewrack_chunk_bendForms, p)) (k : Nat) (hk : k ≤ 4) :
    (cs.drop (k * 3)).take 3 = [.int .u64 (markN k), .int .i64 (markB k), .int .i64 (bitsN k)] := by
  cases fuel with
  | zero => simp [DataW.trod] at h
  | succ fuel =>
    simp only [DataW.trod, Tryd.underlying88, cells86, cells87] at h
    split at h
    · obtain ⟨xs, hm, hx⟩ := Option.map_eq_some_iff.1 h
      have hxs := congrArg Prod.fst hx
      simp only [Rows.laid_tidewrack_chunk_bendForms, DataW.agg.injEq] at hxs
      obtain ⟨b, hb, hf⟩ := Lib.mapM_at hm k k (show (List.range 5)[k]? = some k from List.getElem?_range (by omega))
      have h1 : (xs.map (·.1))[k]? = some b.1 := by simp [hb]
      rw [hxs] at h1
      refine form_cells hf ?_
      match k, hk with
      | 0, _ => exact (Option.some.inj h1).symm
      | 1, _ => exact (Option.some.inj h1).symm
      | 2, _ => exact (Option.some.inj h1).symm
      | 3, _ => exact (Option.some.inj h1).symm
      | 4, _ => exact (Option.some.inj h1).symm
    · cases h
theorem bf_of {W : World} (h : laidMetH Tryd.prog [("tidewrack/chunk.bendForms", Rows.laid_tidewrack_chunk_bendForms)] W) : Bf W := by
  have h' : laidMet Tryd.prog [("tidewrack/chunk.bendForms", Rows.laid_tidewrack_chunk_bendForms)] W := h
  obtain ⟨ps, ⟨g', t', cs, fuel, p, q, hg', ht', hvar, hd, _, _⟩, _⟩ := h'
  have hg : Tryd.prog.globalNamed "tidewrack/chunk.bendForms" = some 0 := by kernel_rfl
  have hty : (Tryd.prog.globals[0]?).map (·.type) = some 88 := by kernel_rfl
  obtain rfl := Option.some.inj (hg.symm.trans hg')
  obtain rfl := Option.some.inj (hty.symm.trans ht')
  have hc : ∀ i v, cs[i]? = some v → W.cell? ⟨0, i, none⟩ = some v := by
    intro i v hv
    have := World.var?_cell hg hvar i
    simpa [hv] using this
  have key : ∀ k, k ≤ 4 → cs[k * 3]? = some (.int .u64 (markN k)) ∧ cs[k * 3 + 1]? = some (.int .i64 (markB k)) ∧ cs[k * 3 + 2]? = some (.int .i64 (bitsN k)) := by
    intro k hk
    have h := table_cells hd k hk
    have a0 := congrArg (·[0]?) h
    have a1 := congrArg (·[1]?) h
    have a2 := congrArg (·[2]?) h
    simp [List.getElem?_drop] at a0 a1 a2
    exact ⟨a0, a1, a2⟩
  refine ⟨World.block_lt_of_cell? _ _ (hc _ _ (key 0 (by omega)).1), fun k hk => ?_⟩
  obtain ⟨b0, b1, b2⟩ := key k hk
  exact ⟨hc _ _ b0, hc _ _ b1, hc _ _ b2⟩
def litV {H : Type} : DataW H → Value
  | .lit (.int k n) => .int k n
  | _ => undef
def flatV {H : Type} : DataW H → List Value
  | .agg l => l.map litV
  | x => [litV x]
def cellsV {H : Type} : DataW H → Array Value
  | .agg l => (l.flatMap flatV).toArray
  | x => #[litV x]
def laidInto (c : Array Value) : Obj → Obj
  | .cells _ t frozen => .cells c t frozen
  | o => o
/-- A world in which the table lies. -/
noncomputable def laidWorld (os : Os) : World :=
  { World.holding Tryd.prog os ⟨#[], #[], []⟩ with heap := (World.holding Tryd.prog os ⟨#[], #[], []⟩).heap.modify 0 (laidInto (cellsV (H := Unit) Rows.laid_tidewrack_chunk_bendForms)) }
end Go.Proofs.YteahhkpbjkcmhaaDoor
