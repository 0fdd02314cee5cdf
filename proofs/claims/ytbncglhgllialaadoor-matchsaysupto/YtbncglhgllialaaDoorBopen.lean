/- Slices of labels and of matchers that come in, with what their bulk says of each. -/
import Derived.Test.YtbncglhgllialaaDoorMopen
namespace Go.Proofs.YtbncglhgllialaaDoor
open Go.ChangeShapes Go.WideShapes Go.ChangeAt Go.RowKit
set_option linter.unusedVariables false

theorem bulk_mem {H : Type} : ∀ {l : List (DataW H)} {d : DataW H}, d ∈ l → Rows.uptoBulk d ≤ Rows.uptoBulkAll l
  | x :: r, d, h => by
    rw [Rows.uptoBulkAll]
    rcases List.mem_cons.1 h with rfl | h
    · omega
    · have := bulk_mem h; omega
theorem open_structsB {α : Type} [Inhabited α] (E : Elem α) {P : Program} {t e : TypeId} {bytes : Nat} {S : α → Prop} {B : Nat} {H : Type} {enc : TypeId × Value → H} {W : World}
    (ht : P.underlying t = some (.slice e)) (hc : P.cellsOf e = E.size) (hby : P.bytesOf e = bytes)
    (step : ∀ fuel cs x, DataW.trod enc P W 0 (fun _ => true) true fuel e cs = some x → ∃ q : α, cs = E.cells q ∧ ((∀ n ∈ x.1.weights P e, n ≤ reachBytes) → Rows.uptoBulk x.1 ≤ B → S q))
    {a0 : Option Addr} {len0 cap0 : Nat} {d0 : DataW H} {p0 : List MemPlace} {ts : List TypeId} {ds : List (DataW H)}
    (h0 : DataW.Trod enc P W 0 (fun _ => true) true t (.slice a0 len0 cap0) d0 p0) (hsz : (DataW.weightsEach P ts ds).all (· ≤ reachBytes) = true) {j : Nat} (hj : ts[j]? = some t) (hd : ds[j]? = some d0) (hB : Rows.uptoBulk d0 ≤ B) :
    ∃ ls : List α, ls.length = len0 ∧ SRd E W a0 ls ∧ (a0 = none → cap0 = 0) ∧ ls.length * bytes ≤ reachBytes ∧ len0 ≤ cap0 ∧ ∀ q ∈ ls, S q := by
  obtain ⟨fuel, hf⟩ := h0
  rcases Go.Deep.open_slice ht hf with ⟨hcs, _⟩ | ⟨x, l, c, m, k, D, Pl, hcs, _, hl, hm, hmm, hx, hall⟩
  · simp [Value.cells] at hcs
    obtain ⟨rfl, rfl, rfl⟩ := hcs
    exact ⟨[], rfl, SRd.nil _ _, fun _ => rfl, by simp, Nat.le_refl _, by simp⟩
  · simp [Value.cells] at hcs
    obtain ⟨rfl, rfl, rfl⟩ := hcs
    simp only [if_true] at hmm
    simp only [Prod.mk.injEq] at hx
    obtain ⟨rfl, rfl⟩ := hx
    have hreach := sized_slice hsz hj hd ht
    rw [hby] at hreach
    simp only [List.length_map, List.length_range] at hreach
    have each : ∀ i, i < len0 → ∃ q : α, W.cells? 0 (x.add (i * E.size)) E.size = some (E.cells q) ∧ S q := by
      intro i hi
      obtain ⟨cs', h1, h2⟩ := hall i (by omega)
      obtain ⟨q, e1, hS⟩ := step _ _ _ h2
      rw [hc] at h1
      have hBi : Rows.uptoBulk (D i) ≤ B := by
        refine Nat.le_trans (bulk_mem (l := (List.range len0).map D) (List.mem_map.2 ⟨i, List.mem_range.2 hi, rfl⟩)) (Nat.le_trans ?_ hB)
        rw [Rows.uptoBulk]
        omega
      refine ⟨q, by rw [h1, e1], hS (fun n hn => ?_) hBi⟩
      have hmem : n ∈ DataW.weightsEach P ts ds := DataW.weights_mem_each hj hd n (by
        simp only [DataW.weights, ht]
        refine List.mem_cons_of_mem _ (List.mem_append_left _ (weights_all (d := D i) ?_ n hn))
        exact List.mem_map.2 ⟨i, List.mem_range.2 hi, rfl⟩)
      simpa using List.all_eq_true.1 hsz _ hmem
    obtain ⟨q, hq⟩ := Go.Deep.choose_lt each
    refine ⟨(List.range len0).map q, by simp, ?_, by simp, ?_, hl, ?_⟩
    · by_cases h0 : len0 = 0
      · left; simp [h0]
      · obtain ⟨b, off, spot⟩ := x
        have hspot : spot = none := by
          obtain ⟨_, _, hcell⟩ := World.cells?_some (hq 0 (by omega)).1
          have := hcell 0 (by exact E.pos)
          rw [List.getElem?_eq_getElem (by rw [E.len]; exact E.pos)] at this
          simpa [Addr.add] using World.cell?_spot this
        subst hspot
        refine srd_range E q len0 fun i hi j v hv => ?_
        obtain ⟨_, hlen, hcell⟩ := World.cells?_some (hq i hi).1
        have hj := (List.getElem?_eq_some_iff.1 hv).1
        rw [E.len] at hj
        have := hcell j hj
        rw [Go.Deep.add_add, add_plain] at this
        rw [this, hv]
    · rw [List.length_map, List.length_range]
      exact Nat.le_trans (Nat.mul_le_mul_right _ (by omega)) hreach
    · intro y hy
      obtain ⟨i, hi, rfl⟩ := List.mem_map.1 hy
      exact (hq i (List.mem_range.1 hi)).2
def BLab (q : Lab) : Prop := SmallLab q ∧ q.2.size ≤ 2147483648
def BMat (q : Mat) : Prop := SmallMat q ∧ q.2.2.size ≤ 2147483648
section
variable {H : Type} {enc : TypeId × Value → H} {W : World} {a0 : Option Addr} {len0 cap0 : Nat} {d0 : DataW H} {p0 : List MemPlace} {ts : List TypeId} {ds : List (DataW H)}
theorem open_labsB (h0 : DataW.Trod enc Tryd.prog W 0 (fun _ => true) true 23 (.slice a0 len0 cap0) d0 p0) (hsz : (DataW.weightsEach Tryd.prog ts ds).all (· ≤ reachBytes) = true) {j : Nat} (ht : ts[j]? = some 23) (hd : ds[j]? = some d0) (hB : Rows.uptoBulk d0 ≤ 1048576) :
    ∃ ls : List Lab, ls.length = len0 ∧ SRd labE W a0 ls ∧ (a0 = none → cap0 = 0) ∧ ls.length ≤ 4398046510976 ∧ len0 ≤ cap0 ∧ ∀ q ∈ ls, BLab q := by
  obtain ⟨ls, h1, h2, h3, h4, h5, h6⟩ := open_structsB labE (S := BLab) (B := 1048576) Tryd.underlying23 cells39 bytes39 (fun fuel cs x h => by
    obtain ⟨y0, y1, n, rfl, hl, g0, g1⟩ := trod_struct2 Tryd.underlying39 h
    rw [cells39] at hl
    match cs, hl with
    | [c0, c1], _ =>
      simp only [cells9, List.drop, List.take] at g0 g1
      obtain ⟨s0, e0, rfl, _⟩ := DataW.trod_string Tryd.underlying9 g0
      obtain ⟨s1, e1, rfl, _⟩ := DataW.trod_string Tryd.underlying9 g1
      simp only [List.cons.injEq, and_true] at e0 e1
      subst e0; subst e1
      refine ⟨(s0, s1), rfl, fun hw hb => ?_⟩
      simp [DataW.weights, DataW.weightsEach, Tryd.underlying39, reachBytes] at hw
      simp only [Rows.uptoBulk, Rows.uptoBulkAll, Array.length_toList] at hb
      exact ⟨hw, by show s1.data.size ≤ _; omega⟩) h0 hsz ht hd hB
  exact ⟨ls, h1, h2, h3, by simp only [reachBytes] at h4; omega, h5, h6⟩
theorem open_matsB (h0 : DataW.Trod enc Tryd.prog W 0 (fun _ => true) true 22 (.slice a0 len0 cap0) d0 p0) (hsz : (DataW.weightsEach Tryd.prog ts ds).all (· ≤ reachBytes) = true) {j : Nat} (ht : ts[j]? = some 22) (hd : ds[j]? = some d0) (hB : Rows.uptoBulk d0 ≤ 1048576) :
    ∃ ls : List Mat, ls.length = len0 ∧ SRd matE W a0 ls ∧ (a0 = none → cap0 = 0) ∧ ls.length ≤ 3518437208780 ∧ len0 ≤ cap0 ∧ ∀ q ∈ ls, BMat q := by
  obtain ⟨ls, h1, h2, h3, h4, h5, h6⟩ := open_structsB matE (S := BMat) (B := 1048576) Tryd.underlying22 cells35 bytes35 (fun fuel cs x h => by
    obtain ⟨y0, y1, y2, n, rfl, hl, g0, g1, g2⟩ := Go.Deep.trod_struct3 Tryd.underlying35 h
    rw [cells35] at hl
    match cs, hl with
    | [c0, c1, c2], _ =>
      simp only [cells9, cells3, List.drop, List.take] at g0 g1 g2
      obtain ⟨s0, e0, rfl, w0⟩ := DataW.trod_int Tryd.underlying3 g0
      obtain ⟨s1, e1, rfl, _⟩ := DataW.trod_string Tryd.underlying9 g1
      obtain ⟨s2, e2, rfl, _⟩ := DataW.trod_string Tryd.underlying9 g2
      simp only [List.cons.injEq, and_true] at e0 e1 e2
      subst e0; subst e1; subst e2
      refine ⟨(s0, s1, s2), rfl, fun hw hb => ?_⟩
      simp [DataW.weights, DataW.weightsEach, Tryd.underlying35, reachBytes] at hw
      simp only [Rows.uptoBulk, Rows.uptoBulkAll, Array.length_toList] at hb
      exact ⟨⟨by simpa [Lit.wf] using w0, hw⟩, by show s2.data.size ≤ _; omega⟩) h0 hsz ht hd hB
  exact ⟨ls, h1, h2, h3, by simp only [reachBytes] at h4; omega, h5, h6⟩
end
end Go.Proofs.YtbncglhgllialaaDoor
