/- Several texts in one: Sr. -/
import Derived.Test.YtaljjemickonaaaGreatMt
/- Rings: the life of a member, walked. -/
namespace Go.Proofs.YtaljjemickonaaaGreat
open Go.RowKit
set_option linter.unusedVariables false
set_option maxRecDepth 20000

theorem set20 {w : World} {g : Nat} {x y : Value} {t : TypeId} (h : w.heap[g]? = some (.cells #[x, y] t (0, 0))) (v : Value) : (w.setCell ⟨g, 0, none⟩ v).heap[g]? = some (.cells #[v, y] t (0, 0)) := by
  simp [World.setCell, Array.getElem?_modify, h]
theorem chg0_of {E id : Int} {ms : List Mem} (h : chgE 0 E ms id = 0) : ringOk ms = true ∧ E ≠ 18446744073709551615 ∧ idOk id = true ∧ hasI ms id = false := by
  unfold chgE at h
  split at h
  · rename_i hx
    refine ⟨hx.1, hx.2.1, hx.2.2, ?_⟩
    have h : (if hasI ms id = true then (131 : Int) else 0) = 0 := h
    cases hh : hasI ms id with
    | false => rfl
    | true => rw [hh] at h; simp at h
  · cases h
set_option maxHeartbeats 8000000 in
theorem rounds_not (E : Int) (a : Option Addr) (n c : Nat) (raw : List MRow) (ms : List Mem) (id : Int) (w : World) (hr : MsRd w a ms raw) (hnil : a = none → c = 0) (hE : 0 ≤ E ∧ E ≤ 18446744073709551615) (hn : ms.length = n) (hz : n ≤ 3518437208800) (hz2 : ∀ s ∈ ms, s.2.2.length ≤ 35184372088832) (hq : chgE 0 E ms id ≠ 0 ∨ 4611686018427387904 < E) :
    Calls Tryz.prog 8 #[.agg #[.int .u64 E, .slice a n c], .int .i64 id] w fun e w' => e = .returned (.bool true) ∧ w.grownBy w' none := by
  have AW : Hid (∀ u, Calls Tryz.prog 24 #[] u fun e w' => e = .returned (.bool true) ∧ u.grownBy w' none) := r_awake
  have CP : Hid (∀ u a c raw, MsRd u a ms raw → Calls Tryz.prog 9 #[.agg #[.int .u64 E, .slice a n c]] u fun e w' => CpOut E ms n u e w') := fun u a c raw h => cp_any h hn hz hz2
  have JO : Hid (∀ u a c raw, MsRd u a ms raw → (a = none → c = 0) → Calls Tryz.prog 10 #[.agg #[.int .u64 E, .slice a n c], .int .i64 id] u fun e w' => NoOut (chgE 0 E ms id) u e w') := fun u a c raw h h1 => (f_chg0 E ms raw id a n c u h hn h1 hE hz hz2).mono fun e w' h => rg_no rfl h
  have hq' : (chgE 0 E ms id != 0) = true ∨ 4611686018427387904 < E := by
    rcases hq with h | h
    · exact .inl (by simp [h])
    · exact .inr h
  generalize chgE 0 E ms id = q at JO hq'
  have HBr : Hid (RgBox (w.alloc (.cells #[.int .u64 E, .slice a n c] 25)) w.heap.size E a n c ms raw) := RgBox.made hr hnil hn
  have HG : Hid (w.grownBy (w.alloc (.cells #[.int .u64 E, .slice a n c] 25)) none) := World.grownBy_alloc _ _ none
  have HQ : Hid ((q != 0) = true ∨ 4611686018427387904 < E) := hq'
  clear hr hnil hE hn hz hz2 hq hq'
  obtain ⟨B, eB⟩ : ∃ B, w.heap.size = B := ⟨_, rfl⟩
  have EB : Hid (w.heap.size = B) := eB
  rw [eB] at HBr
  clear eB
  go_enter Tryz.func8, Tryz.ntmps8
  obtain ⟨x0r, x1r⟩ := HBr.out.cells
  have C0 := CP.out _ a c _ HBr.out.rd
  go_wp2_with fail
  try rw [EB.out]
  generalize w.alloc (.cells #[.int .u64 E, .slice a n c] 25) = W at *
  clear x0r x1r
  refine C0.mono ?_
  clear C0
  rintro e u1 ⟨a1, c1, raw1, rfl, m9, nl9, g9⟩
  replace HG : Hid (w.grownBy (u1) none) := HG.out.trans g9
  replace HBr : Hid (RgBox (u1) B (E) a n c ms raw) := HBr.out.grown g9
  have C1 := JO.out _ _ _ _ m9 nl9
  clear g9  m9 nl9
  go_wp2_with fail
  refine C1.mono ?_
  clear C1
  rintro e u2 ⟨ej, aj, nj, cj, rfl, g9⟩
  have gA := g9.trans (World.grownBy_alloc u2 (.cells #[.int .u64 ej, .slice aj nj cj] 25) none)
  replace HG : Hid (w.grownBy (u2.alloc (.cells #[.int .u64 ej, .slice aj nj cj] 25)) none) := HG.out.trans gA
  replace HBr : Hid (RgBox (u2.alloc (.cells #[.int .u64 ej, .slice aj nj cj] 25)) B (E) a n c ms raw) := HBr.out.grown gA
  clear gA g9
  have HCL := AW.out (u2.alloc (.cells #[.int .u64 ej, .slice aj nj cj] 25))
  obtain ⟨x0, x1⟩ := HBr.out.cells
  have hq8 : (q != 0) = true ∨ (q != 0) = false ∧ 4611686018427387904 < E := by
    cases h : (q != 0) with
    | true => exact .inl rfl
    | false => exact .inr ⟨rfl, by have := HQ.out; rw [h] at this; simpa using this⟩
  rcases hq8 with hq9 | ⟨hq9, hq7⟩
  · go_wp2_with fail
    refine HCL.mono ?_
    rintro e w9 ⟨rfl, hg9⟩
    have HG9 : Hid (w.grownBy w9 none) := HG.out.trans hg9
    clear hg9
    go_wp2
    go_ret
    exact ⟨rfl, HG9.out⟩
  · go_wp2_with fail
    refine HCL.mono ?_
    rintro e w9 ⟨rfl, hg9⟩
    have HG9 : Hid (w.grownBy w9 none) := HG.out.trans hg9
    clear hg9
    go_wp2
    go_ret
    exact ⟨rfl, HG9.out⟩
end Go.Proofs.YtaljjemickonaaaGreat

