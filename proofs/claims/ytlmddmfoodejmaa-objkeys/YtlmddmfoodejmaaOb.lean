/- Package obj: objects and drafts in memory; the small calls. -/
import Derived.Test.YtlmddmfoodejmaaOa
import Derived.Deep.RegionHeld3
import Derived.Laws.ResultCell
namespace Go.Proofs.Ytlmddmfoodejmaa
open Go.RowKit Go.Maps
set_option linter.unusedVariables false
set_option maxRecDepth 20000

/-- An object in a block of its own. -/
def ObjAt (w : World) (g : Nat) (x y : Value) : Prop := w.heap[g]? = some (.cells #[x, y] 66 (0, 0))
section
variable {w w' : World} {g : Nat} {x y : Value}
theorem ObjAt.c0 (h : ObjAt w g x y) : w.cell? ⟨g, 0, none⟩ = some x := by rw [cell_of_row w g 0 _ _ _ h]; rfl
theorem ObjAt.c1 (h : ObjAt w g x y) : w.cell? ⟨g, 1, none⟩ = some y := by rw [cell_of_row w g 1 _ _ _ h]; rfl
theorem ObjAt.f0 (h : ObjAt w g x y) : w.frozen? ⟨g, 0, none⟩ = false := by unfold ObjAt at h; simp [World.frozen?, h]
theorem ObjAt.f1 (h : ObjAt w g x y) : w.frozen? ⟨g, 1, none⟩ = false := by unfold ObjAt at h; simp [World.frozen?, h]
theorem ObjAt.lt (h : ObjAt w g x y) : g < w.heap.size := (Array.getElem?_eq_some_iff.1 h).1
theorem ObjAt.grown (h : ObjAt w g x y) (hg : w.grownBy w' none) : ObjAt w' g x y := (hg.block g h.lt (by simp)).trans h
theorem ObjAt.new (w : World) (x y : Value) : ObjAt (w.alloc (.cells #[x, y] 66)) w.heap.size x y := heap_alloc_new w _
theorem ObjAt.set (h : ObjAt w g x y) (x' y' : Value) : ObjAt ((w.setCell ⟨g, 0, none⟩ x').setCell ⟨g, 1, none⟩ y') g x' y' := by
  have h1 : (w.setCell ⟨g, 0, none⟩ x').heap[g]? = some (.cells #[x', y] 66 (0, 0)) := by
    unfold ObjAt at h
    rw [setCell_eq_setRow w g 0 _ 66 (0, 0) _ h, setRow_heap w g _ _ 66 _ h]
    rfl
  unfold ObjAt
  rw [setCell_eq_setRow _ g 1 _ 66 (0, 0) _ h1, setRow_heap _ g _ _ 66 _ h1]
  rfl
theorem ObjAt.var (h : ObjAt w g x y) : (loadVar 66 ⟨g, 0, none⟩).run Try.prog w = .ok (.agg #[x, y]) w :=
  run_loadVar_row w g 66 66 _ _ (.struct (Try.prog.fieldsOf 66)) h (by kernel_rfl) rfl (by kernel_rfl)
end
theorem gb_pair {w w1 : World} {g : Nat} (hg : w.grownBy w1 none) (hn : w.heap.size ≤ g) (u v : Value) : w.grownBy ((w1.setCell ⟨g, 0, none⟩ u).setCell ⟨g, 1, none⟩ v) none :=
  gb_trans (gb_trans hg (gb_set (g := g) rfl) (fun k hk => .inl (by cases hk; exact hn))) (gb_set (g := g) rfl) (fun k hk => .inl (by cases hk; exact hn))
theorem results_cell2 {fn : Func} {p t : Tmp} {ty : TypeId} (h : fn.results = #[.cell p ty, .tmp t]) (tmps : Array Value) (P : Program) (w : World) (ad : Addr) (v : Value) (h1 : tmps.getD p undef = .pointer (some ad)) (h2 : (loadVar ty ad).run P w = .ok v w) :
    (results fn tmps).run P w = .ok (.tuple #[v, tmps.getD t undef]) w := by
  rw [Array.getD_eq_getD_getElem?] at h1
  simp only [results, h]
  simp [h1, asAddr, h2]
/-- A draft. -/
abbrev drV (d : Nat) (k : ByteArray) (v : Value) : Value := .agg #[.pointer (some ⟨d, 0, none⟩), .string k, v]
def DrAt (w : World) (g d : Nat) (k : ByteArray) (v : Value) : Prop := w.heap[g]? = some (.cells #[.pointer (some ⟨d, 0, none⟩), .string k, v] 75 (0, 0))
section
variable {w w' : World} {g d : Nat} {k : ByteArray} {v : Value}
theorem DrAt.c0 (h : DrAt w g d k v) : w.cell? ⟨g, 0, none⟩ = some (.pointer (some ⟨d, 0, none⟩)) := by rw [cell_of_row w g 0 _ _ _ h]; rfl
theorem DrAt.c1 (h : DrAt w g d k v) : w.cell? ⟨g, 1, none⟩ = some (.string k) := by rw [cell_of_row w g 1 _ _ _ h]; rfl
theorem DrAt.c2 (h : DrAt w g d k v) : w.cell? ⟨g, 2, none⟩ = some v := by rw [cell_of_row w g 2 _ _ _ h]; rfl
theorem DrAt.lt (h : DrAt w g d k v) : g < w.heap.size := (Array.getElem?_eq_some_iff.1 h).1
theorem DrAt.grown (h : DrAt w g d k v) (hg : w.grownBy w' none) : DrAt w' g d k v := (hg.block g h.lt (by simp)).trans h
theorem DrAt.new (w : World) (d : Nat) (k : ByteArray) (v : Value) : DrAt (w.alloc (.cells #[.pointer (some ⟨d, 0, none⟩), .string k, v] 75)) w.heap.size d k v := heap_alloc_new w _
theorem DrAt.var (h : DrAt w g d k v) : (loadVar 75 ⟨g, 0, none⟩).run Try.prog w = .ok (drV d k v) w :=
  run_loadVar_row w g 75 75 _ _ (.struct (Try.prog.fieldsOf 75)) h (by kernel_rfl) rfl (by kernel_rfl)
end
theorem o_name (d : Nat) (k : ByteArray) (v : Value) (w : World) (hk : k.size ≤ 64) :
    Calls Try.prog 50 #[drV d k v] w fun e w' => e = .returned (.string (tN k)) ∧ w.grownBy w' none := by
  have q1 : ¬ (9223372036854775807 : Nat) < 2 + k.size := by omega
  have hg := World.grownBy_alloc w (.cells #[.pointer (some ⟨d, 0, none⟩), .string k, v] 75) none
  have HG : Hid (w.grownBy (w.alloc (.cells #[.pointer (some ⟨d, 0, none⟩), .string k, v] 75)) none) := hg
  clear hg
  go_enter Try.func50, Try.ntmps50
  go_wp2
  go_ret
  exact ⟨ret_str (tN_eq k), HG.out⟩
end Go.Proofs.Ytlmddmfoodejmaa
