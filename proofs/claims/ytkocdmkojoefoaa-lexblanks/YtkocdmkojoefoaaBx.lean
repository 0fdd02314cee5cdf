/- Parts of a text; a token in a box; a list of tokens. -/
import Derived.Test.YtkocdmkojoefoaaSc
import Derived.Laws.Strings2
import Derived.Laws.Strings3
namespace Go.Proofs.Ytkocdmkojoefoaa
open Go.RowKit
set_option linter.unusedVariables false
set_option maxRecDepth 20000

theorem sInts_ext (s : ByteArray) (a b : Nat) : sInts (s.extract a b) = ((sInts s).drop a).take (b - a) := by
  unfold sInts
  rw [ByteArray.data_extract, Array.toList_extract, List.extract_eq_take_drop, List.map_take, List.map_drop]
theorem str_self (s : ByteArray) : strOfNums (sInts s) = s := by
  apply ByteArray.ext
  apply Array.toList_inj.1
  rw [strOfNums_data]
  unfold sInts
  rw [List.map_map]
  conv => rhs; rw [← List.map_id s.data.toList]
  apply List.map_congr_left
  intro b _
  simp
theorem str_inj {s t : ByteArray} (h : sInts s = sInts t) : s = t := by rw [← str_self s, ← str_self t, h]
theorem sInts_str {l : List Int} (h : ∀ z ∈ l, 0 ≤ z ∧ z ≤ 255) : sInts (strOfNums l) = l := by
  unfold sInts
  rw [strOfNums_data, List.map_map]
  conv => rhs; rw [← List.map_id l]
  apply List.map_congr_left
  intro z hz
  have := h z hz
  simp
  omega
/-- A text from a place on. -/
def dropS (s : ByteArray) (k : Nat) : ByteArray := s.extract k s.size
theorem sInts_drop (s : ByteArray) (k : Nat) : sInts (dropS s k) = (sInts s).drop k := by
  unfold dropS
  rw [sInts_ext, List.take_of_length_le]
  rw [List.length_drop, sInts_len]
  omega
theorem size_drop (s : ByteArray) (k : Nat) : (dropS s k).size = s.size - k := by
  rw [← sInts_len, sInts_drop, List.length_drop, sInts_len]
def subS (s : ByteArray) (a b : Nat) : ByteArray := strOfNums (((sInts s).drop a).take (b - a))
theorem ext_sub (s : ByteArray) (a b : Nat) : s.extract a b = subS s a b := by
  rw [← str_self (s.extract a b), sInts_ext]; rfl
theorem sl_lo (s : ByteArray) (k : Nat) (hk : k ≤ s.size) (w : World) : (Instr.slice 9 (.string s) (some (.int .i64 (k : Int))) none none).run Try.prog w = .ok (.string (dropS s k)) w := by
  rw [run_slice_string_l w 9 s Try.underlying9 .i64 (k : Int) (by omega) (by omega)]
  rfl
theorem sl_hi (s : ByteArray) (k : Nat) (hk : k ≤ s.size) (w : World) : (Instr.slice 9 (.string s) none (some (.int .i64 (k : Int))) none).run Try.prog w = .ok (.string (strOfNums ((sInts s).take k))) w := by
  rw [run_slice_string_h w 9 s Try.underlying9 .i64 (k : Int) (by omega) (by omega)]
  rw [Int.toNat_natCast, ext_sub]
  rfl
theorem sl_lh (s : ByteArray) (a b : Nat) (h1 : a ≤ b) (h2 : b ≤ s.size) (w : World) : (Instr.slice 9 (.string s) (some (.int .i64 (a : Int))) (some (.int .i64 (b : Int))) none).run Try.prog w = .ok (.string (strOfNums (((sInts s).drop a).take (b - a)))) w := by
  rw [run_slice_string w 9 s .i64 .i64 (a : Int) (b : Int) Try.underlying9 (by omega) (by omega) (by omega)]
  simp only [Int.toNat_natCast]
  rw [ext_sub]
  rfl

abbrev tokV (k a : Int) (t : ByteArray) (s : Int) : Value := .agg #[.int .i64 k, .int .i64 a, .string t, .int .i64 s]
def tokE : Elem Tok where
  cells q := [.int .i64 q.1, .int .i64 q.2.1, .string q.2.2.1, .int .i64 q.2.2.2]
  size := 4
  pos := by decide
  len _ := rfl
  one q v h := by
    simp only [List.mem_cons, List.mem_nil_iff, or_false] at h
    rcases h with rfl | rfl | rfl | rfl <;> rfl
theorem info32 : (Try.prog.info? 32).map (fun i => (i.zero, i.size, i.bytes)) = some (some (.agg #[.int .i64 0, .int .i64 0, .string ⟨#[]⟩, .int .i64 0]), 4, 40) := by kernel_rfl
theorem tokT : ElemOf tokE Try.prog 22 32 40 := by
  obtain ⟨i0, hi, hz0, hz1, hz2⟩ := info_parts info32
  exact ⟨Try.underlying22, i0, _, hi, hz0, hz1, hz2, rfl⟩
theorem isz32 : (Try.prog.info? 32).map (·.size) = some 4 := by kernel_rfl
theorem free_row {w : World} {g : Nat} {cs : Array Value} {t : TypeId} (h : w.heap[g]? = some (.cells cs t (0, 0))) (j : Nat) : w.frozen? ⟨g, j, none⟩ = false := by simp [World.frozen?, h]
theorem size_alloc (w : World) (o : Obj) : (w.alloc o).heap.size = w.heap.size + 1 := by rw [World.alloc, Array.size_push]
theorem results_row_tmp {fn : Func} {p u : Tmp} {ty : TypeId} (h : fn.results = #[.cell p ty, .tmp u]) (tmps : Array Value) (P : Program) (w : World) (g : Nat) (t : TypeId) (cs : Array Value) (fr : Nat × Nat) (F : Array Field)
    (hp : tmps.getD p undef = .pointer (some ⟨g, 0, none⟩)) (hg : w.heap[g]? = some (.cells cs t fr))
    (hu : P.underlying ty = some (.struct F)) (hi : (P.info? ty).map (·.size) = some cs.size) :
    (results fn tmps).run P w = .ok (.tuple #[.agg cs, tmps.getD u undef]) w := by
  rw [results_cell_tmp h, hp]
  simp [asAddr, Result.andThen, run_loadVar_row w g t ty cs fr (.struct F) hg hu rfl hi]
theorem cell4 {w : World} {g : Nat} {x y z u : Value} {t : TypeId} (h : w.heap[g]? = some (.cells #[x, y, z, u] t (0, 0))) : w.cell? ⟨g, 0, none⟩ = some x ∧ w.cell? ⟨g, 1, none⟩ = some y ∧ w.cell? ⟨g, 2, none⟩ = some z ∧ w.cell? ⟨g, 3, none⟩ = some u :=
  ⟨by rw [cell_of_row _ _ _ _ _ _ h]; rfl, by rw [cell_of_row _ _ _ _ _ _ h]; rfl, by rw [cell_of_row _ _ _ _ _ _ h]; rfl, by rw [cell_of_row _ _ _ _ _ _ h]; rfl⟩
abbrev put4 (w : World) (g : Nat) (x y z u : Value) : World := (((w.setCell ⟨g, 0, none⟩ x).setCell ⟨g, 1, none⟩ y).setCell ⟨g, 2, none⟩ z).setCell ⟨g, 3, none⟩ u
theorem gb_put4 (w : World) (g : Nat) (x y z u : Value) : w.grownBy (put4 w g x y z u) (some g) := gb_trans (gb_trans (gb_trans (gb_set (g := g) rfl) (gb_set (g := g) rfl) (fun k hk => .inr hk)) (gb_set (g := g) rfl) (fun k hk => .inr hk)) (gb_set (g := g) rfl) (fun k hk => .inr hk)
theorem row4 {w : World} {g : Nat} {x y z u : Value} {t : TypeId} (h : w.heap[g]? = some (.cells #[x, y, z, u] t (0, 0))) (x' y' z' u' : Value) : (put4 w g x' y' z' u').heap[g]? = some (.cells #[x', y', z', u'] t (0, 0)) := by
  simp [put4, World.setCell, Array.getElem?_modify, h]
/-- The box of a result that is a token, in a world that has grown. -/
structure Bx (w W : World) (g : Nat) : Prop where
  row : W.heap[g]? = some (.cells #[.int .i64 0, .int .i64 0, .string ⟨#[]⟩, .int .i64 0] 32 (0, 0))
  gb : w.grownBy W none
  le : w.heap.size ≤ g
theorem Bx.made (w : World) : Bx w (w.alloc (.cells #[.int .i64 0, .int .i64 0, .string ⟨#[]⟩, .int .i64 0] 32)) w.heap.size :=
  ⟨heap_alloc_new w _, World.grownBy_alloc w _ none, Nat.le_refl _⟩
theorem Bx.lt {w W : World} {g : Nat} (h : Bx w W g) : g < W.heap.size := (Array.getElem?_eq_some_iff.1 h.row).1
theorem Bx.grown {w W W' : World} {g : Nat} {row : Option Nat} (h : Bx w W g) (hg : W.grownBy W' row) (hr : ∀ k, row = some k → w.heap.size ≤ k ∧ k ≠ g) : Bx w W' g :=
  ⟨by rw [hg.block g h.lt (fun e => (hr g e.symm).2 rfl)]; exact h.row, gb_trans h.gb hg (fun k hk => .inl (hr k hk).1), h.le⟩
/-- What a call that reads a token answers. -/
def TkOut (R : Int × ByteArray × Int × Nat) (w : World) (e : Ending) (w' : World) : Prop :=
  e = .returned (.tuple #[tokV R.1 0 R.2.1 R.2.2.1, .int .i64 (R.2.2.2 : Int)]) ∧ w.grownBy w' none
theorem tk_ret {w W : World} {g n : Nat} {k sp : Int} {t : ByteArray} {R : Int × ByteArray × Int × Nat} (h : Bx w W g) (hR : R = (k, t, sp, n)) : TkOut R w (.returned (.tuple #[.agg #[.int .i64 k, .int .i64 0, .string t, .int .i64 sp], .int .i64 (n : Int)])) (put4 W g (.int .i64 k) (.int .i64 0) (.string t) (.int .i64 sp)) := by
  subst hR
  exact ⟨rfl, gb_trans h.gb (gb_put4 _ _ _ _ _ _) (fun j hj => by cases hj; exact .inl h.le)⟩
end Go.Proofs.Ytkocdmkojoefoaa
