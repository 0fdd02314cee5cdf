/- Matchers that come in, with what their bulk says of each; MaxLen is a number. -/
import Derived.Test.YtpabbmiibehfjaaGreatDoorGu
import Derived.Test.YtpabbmiibehfjaaGreatDoorGy
namespace Go.Proofs.YtpabbmiibehfjaaGreatDoor
open Go.ChangeShapes Go.WideShapes Go.ChangeAt Go.RowKit
set_option linter.unusedVariables false
set_option maxRecDepth 20000

theorem bulk_mem {H : Type} : ∀ {l : List (DataW H)} {d : DataW H}, d ∈ l → Rows.uptoBulk d ≤ Rows.uptoBulkAll l
  | x :: r, d, h => by
    rw [Rows.uptoBulkAll]
    rcases List.mem_cons.1 h with rfl | h
    · omega
    · have := bulk_mem h; omega
theorem bulk_pos {H : Type} (d : DataW H) : 0 < Rows.uptoBulk d := by
  cases d with
  | lit l => cases l <;> simp [Rows.uptoBulk]
  | _ => simp [Rows.uptoBulk]
theorem bulk_len {H : Type} : ∀ (l : List (DataW H)), l.length ≤ Rows.uptoBulkAll l
  | [] => Nat.zero_le _
  | x :: r => by
    rw [Rows.uptoBulkAll, List.length_cons]
    have := bulk_len r
    have := bulk_pos x
    omega
theorem open_elems {α : Type} [Inhabited α] (E : Elem α) {P : Program} {t e : TypeId} {S : α → Prop} {B : Nat} {H : Type} {enc : TypeId × Value → H} {W : World}
    (ht : P.underlying t = some (.slice e)) (hc : P.cellsOf e = E.size)
    (step : ∀ fuel cs x, DataW.trod enc P W 0 (fun _ => true) true fuel e cs = some x → ∃ q : α, cs = E.cells q ∧ (Rows.uptoBulk x.1 ≤ B → S q))
    {a0 : Option Addr} {len0 cap0 : Nat} {d0 : DataW H} {p0 : List MemPlace}
    (h0 : DataW.Trod enc P W 0 (fun _ => true) true t (.slice a0 len0 cap0) d0 p0) (hB : Rows.uptoBulk d0 ≤ B) :
    ∃ ls : List α, ls.length = len0 ∧ SRd E W a0 ls ∧ (a0 = none → cap0 = 0) ∧ ls.length ≤ B ∧ ∀ q ∈ ls, S q := by
  obtain ⟨fuel, hf⟩ := h0
  rcases Go.Deep.open_slice ht hf with ⟨hcs, _⟩ | ⟨x, l, c, m, k, D, Pl, hcs, _, hl, hm, hmm, hx, hall⟩
  · simp [Value.cells] at hcs
    obtain ⟨rfl, rfl, rfl⟩ := hcs
    exact ⟨[], rfl, .inl rfl, fun _ => rfl, Nat.zero_le _, by simp⟩
  · simp [Value.cells] at hcs
    obtain ⟨rfl, rfl, rfl⟩ := hcs
    simp only [if_true] at hmm
    simp only [Prod.mk.injEq] at hx
    obtain ⟨rfl, rfl⟩ := hx
    have each : ∀ i, i < len0 → ∃ q : α, W.cells? 0 (x.add (i * E.size)) E.size = some (E.cells q) ∧ S q := by
      intro i hi
      obtain ⟨cs', h1, h2⟩ := hall i (by omega)
      obtain ⟨q, e1, hS⟩ := step _ _ _ h2
      rw [hc] at h1
      have hBi : Rows.uptoBulk (D i) ≤ B := by
        refine Nat.le_trans (bulk_mem (l := (List.range len0).map D) (List.mem_map.2 ⟨i, List.mem_range.2 hi, rfl⟩)) (Nat.le_trans ?_ hB)
        rw [Rows.uptoBulk]
        omega
      exact ⟨q, by rw [h1, e1], hS hBi⟩
    have hlB : len0 ≤ B := by
      have h1 := bulk_len ((List.range len0).map D)
      rw [Rows.uptoBulk] at hB
      simp only [List.length_map, List.length_range] at h1
      omega
    obtain ⟨q, hq⟩ := Go.Deep.choose_lt each
    refine ⟨(List.range len0).map q, by simp, ?_, by simp, by simpa using hlB, ?_⟩
    · by_cases h0 : len0 = 0
      · left; simp [h0]
      · obtain ⟨b, off, spot⟩ := x
        have hspot : spot = none := by
          obtain ⟨_, _, hcell⟩ := World.cells?_some (hq 0 (by omega)).1
          have := hcell 0 (by exact E.pos)
          rw [List.getElem?_eq_getElem (by rw [E.len]; exact E.pos)] at this
          simpa [Addr.add] using World.cell?_spot this
        subst hspot
        refine srd_range E q len0 fun i hi j v hv => ?_
        obtain ⟨_, hlen, hcell⟩ := World.cells?_some (hq i hi).1
        have hj := (List.getElem?_eq_some_iff.1 hv).1
        rw [E.len] at hj
        have := hcell j hj
        rw [Go.Deep.add_add, add_plain] at this
        rw [this, hv]
    · intro y hy
      obtain ⟨i, hi, rfl⟩ := List.mem_map.1 hy
      exact (hq i (List.mem_range.1 hi)).2
theorem mx_of {W : World} (h : W.ShapedOpen Tryz.prog) : Mt.Mx W := by
  obtain ⟨m, hm⟩ := cell_of_shapedOpen_int (g := 0) (t := 3) (zero := #[.int .i64 0]) (k := .i64) h (by rw [show Tryz.prog.globals.size = 3 from by kernel_rfl]; decide) (by kernel_rfl) rfl (by kernel_rfl) (by kernel_rfl) Tryz.underlying3
  exact ⟨World.block_lt_of_cell? _ _ hm, m, hm⟩
theorem cells94 : Tryz.prog.cellsOf 94 = 3 := by kernel_rfl
theorem cells3 : Tryz.prog.cellsOf 3 = 1 := by kernel_rfl
section
variable {H : Type} {enc : TypeId × Value → H} {W : World}
theorem open_mats {a0 : Option Addr} {len0 cap0 : Nat} {d0 : DataW H} {p0 : List MemPlace} (h0 : DataW.Trod enc Tryz.prog W 0 (fun _ => true) true 32 (.slice a0 len0 cap0) d0 p0) (hB : Rows.uptoBulk d0 ≤ 1048576) :
    ∃ ms : List Mt.Mat, ms.length = len0 ∧ SRd Mt.matE W a0 ms ∧ (a0 = none → cap0 = 0) ∧ MatOk ms := by
  obtain ⟨ls, h1, h2, h3, h4, h5⟩ := open_elems Mt.matE (S := fun q => q.2.1.size ≤ 1048576 ∧ q.2.2.size ≤ 1048576) (B := 1048576) Tryz.underlying32 cells94 (fun fuel cs x h => by
    obtain ⟨y0, y1, y2, n, rfl, hl, g0, g1, g2⟩ := Go.Deep.trod_struct3 Tryz.underlying94 h
    rw [cells94] at hl
    match cs, hl with
    | [c0, c1, c2], _ =>
      simp only [cells9, cells3, List.drop, List.take] at g0 g1 g2
      obtain ⟨s0, e0, rfl, w0⟩ := DataW.trod_int Tryz.underlying3 g0
      obtain ⟨s1, e1, rfl, _⟩ := DataW.trod_string Tryz.underlying9 g1
      obtain ⟨s2, e2, rfl, _⟩ := DataW.trod_string Tryz.underlying9 g2
      simp only [List.cons.injEq, and_true] at e0 e1 e2
      subst e0; subst e1; subst e2
      refine ⟨(s0, s1, s2), rfl, fun hb => ?_⟩
      simp only [Rows.uptoBulk, Rows.uptoBulkAll, Array.length_toList] at hb
      exact ⟨by show s1.data.size ≤ _; omega, by show s2.data.size ≤ _; omega⟩) h0 hB
  exact ⟨ls, h1, h2, h3, ⟨by omega, fun m hm => ⟨by show m.2.1.size ≤ _; have := (h5 m hm).1; unfold maxLen; omega, by show m.2.2.size ≤ _; have := (h5 m hm).2; unfold maxLen; omega⟩, fun m hm => by have := (h5 m hm).2; omega⟩⟩
end
end Go.Proofs.YtpabbmiibehfjaaGreatDoor
