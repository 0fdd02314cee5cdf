/- Slices of records, and of bools, that come in. -/
import Derived.Test.YtekejnjaiccnbaaGreatDoorNa
import Derived.Deep.Slices
namespace Go.Proofs.YtekejnjaiccnbaaGreatDoor
open Go.ChangeShapes Go.WideShapes Go.ChangeAt Go.RowKit
set_option linter.unusedVariables false

theorem bulk_mem {H : Type} : ∀ {l : List (DataW H)} {d : DataW H}, d ∈ l → Rows.uptoBulk d ≤ Rows.uptoBulkAll l
  | x :: r, d, h => by
    rw [Rows.uptoBulkAll]
    rcases List.mem_cons.1 h with rfl | h
    · omega
    · have := bulk_mem h; omega
theorem bulk_pos {H : Type} (d : DataW H) : 0 < Rows.uptoBulk d := by
  cases d with
  | lit l => cases l <;> simp [Rows.uptoBulk]
  | _ => simp [Rows.uptoBulk]
theorem bulk_len {H : Type} : ∀ (l : List (DataW H)), l.length ≤ Rows.uptoBulkAll l
  | [] => Nat.zero_le _
  | x :: r => by
    rw [Rows.uptoBulkAll, List.length_cons]
    have := bulk_len r
    have := bulk_pos x
    omega
theorem weights_all {H : Type} {P : Program} {e : TypeId} : ∀ {l : List (DataW H)} {d : DataW H}, d ∈ l → ∀ n ∈ d.weights P e, n ∈ DataW.weightsAll P e l
  | x :: r, d, h, n, hn => by
    simp only [DataW.weightsAll, List.mem_append]
    rcases List.mem_cons.1 h with rfl | h
    · exact Or.inl hn
    · exact Or.inr (weights_all h n hn)
theorem srd_range {α : Type} (E : Elem α) {w : World} {b off : Nat} (q : Nat → α) (n : Nat) (h : ∀ i, i < n → ∀ j v, (E.cells (q i))[j]? = some v → w.cell? ⟨b, off + (i * E.size + j), none⟩ = some v) :
    SRd E w (some ⟨b, off, none⟩) ((List.range n).map q) := by
  right
  refine ⟨b, off, rfl, fun p v hp => ?_⟩
  have hlen := (List.getElem?_eq_some_iff.1 hp).1
  rw [E.flat_len, List.length_map, List.length_range] at hlen
  have hpos := E.pos
  have hi : p / E.size < n := (Nat.div_lt_iff_lt_mul hpos).2 hlen
  have hj : p % E.size < E.size := Nat.mod_lt _ hpos
  have hg := E.flat_get ((List.range n).map q) (p / E.size) (q (p / E.size)) (p % E.size) (by simp [hi]) hj
  have hsum : p / E.size * E.size + p % E.size = p := by rw [Nat.mul_comm]; exact Nat.div_add_mod p E.size
  rw [hsum, hp] at hg
  have := h _ hi _ v hg.symm
  rwa [hsum] at this
theorem open_elems {α : Type} [Inhabited α] (E : Elem α) {P : Program} {t e : TypeId} {S : α → Prop} {B : Nat} {H : Type} {enc : TypeId × Value → H} {W : World}
    (ht : P.underlying t = some (.slice e)) (hc : P.cellsOf e = E.size)
    (step : ∀ fuel cs x, DataW.trod enc P W 0 (fun _ => true) true fuel e cs = some x → ∃ q : α, cs = E.cells q ∧ (Rows.uptoBulk x.1 ≤ B → S q))
    {a0 : Option Addr} {len0 cap0 : Nat} {d0 : DataW H} {p0 : List MemPlace}
    (h0 : DataW.Trod enc P W 0 (fun _ => true) true t (.slice a0 len0 cap0) d0 p0) (hB : Rows.uptoBulk d0 ≤ B) :
    ∃ ls : List α, ls.length = len0 ∧ SRd E W a0 ls ∧ (a0 = none → cap0 = 0) ∧ ls.length ≤ B ∧ ∀ q ∈ ls, S q := by
  obtain ⟨fuel, hf⟩ := h0
  rcases Go.Deep.open_slice ht hf with ⟨hcs, _⟩ | ⟨x, l, c, m, k, D, Pl, hcs, _, hl, hm, hmm, hx, hall⟩
  · simp [Value.cells] at hcs
    obtain ⟨rfl, rfl, rfl⟩ := hcs
    exact ⟨[], rfl, .inl rfl, fun _ => rfl, Nat.zero_le _, by simp⟩
  · simp [Value.cells] at hcs
    obtain ⟨rfl, rfl, rfl⟩ := hcs
    simp only [if_true] at hmm
    simp only [Prod.mk.injEq] at hx
    obtain ⟨rfl, rfl⟩ := hx
    have each : ∀ i, i < len0 → ∃ q : α, W.cells? 0 (x.add (i * E.size)) E.size = some (E.cells q) ∧ S q := by
      intro i hi
      obtain ⟨cs', h1, h2⟩ := hall i (by omega)
      obtain ⟨q, e1, hS⟩ := step _ _ _ h2
      rw [hc] at h1
      have hBi : Rows.uptoBulk (D i) ≤ B := by
        refine Nat.le_trans (bulk_mem (l := (List.range len0).map D) (List.mem_map.2 ⟨i, List.mem_range.2 hi, rfl⟩)) (Nat.le_trans ?_ hB)
        rw [Rows.uptoBulk]
        omega
      exact ⟨q, by rw [h1, e1], hS hBi⟩
    have hlB : len0 ≤ B := by
      have h1 := bulk_len ((List.range len0).map D)
      rw [Rows.uptoBulk] at hB
      simp only [List.length_map, List.length_range] at h1
      omega
    obtain ⟨q, hq⟩ := Go.Deep.choose_lt each
    refine ⟨(List.range len0).map q, by simp, ?_, by simp, by simpa using hlB, ?_⟩
    · by_cases h0 : len0 = 0
      · left; simp [h0]
      · obtain ⟨b, off, spot⟩ := x
        have hspot : spot = none := by
          obtain ⟨_, _, hcell⟩ := World.cells?_some (hq 0 (by omega)).1
          have := hcell 0 (by exact E.pos)
          rw [List.getElem?_eq_getElem (by rw [E.len]; exact E.pos)] at this
          simpa [Addr.add] using World.cell?_spot this
        subst hspot
        refine srd_range E q len0 fun i hi j v hv => ?_
        obtain ⟨_, hlen, hcell⟩ := World.cells?_some (hq i hi).1
        have hj := (List.getElem?_eq_some_iff.1 hv).1
        rw [E.len] at hj
        have := hcell j hj
        rw [Go.Deep.add_add, add_plain] at this
        rw [this, hv]
    · intro y hy
      obtain ⟨i, hi, rfl⟩ := List.mem_map.1 hy
      exact (hq i (List.mem_range.1 hi)).2
def RecS (W : World) (q : Sl) : Prop := ∃ r : List Int, q.2.1 = r.length ∧ Rd W q.1 r ∧ (q.1 = none → q.2.2 = 0) ∧ r.length ≤ 1048576
theorem cells27 : Tryz.prog.cellsOf 27 = 1 := by kernel_rfl
theorem cells4 : Tryz.prog.cellsOf 4 = 1 := by kernel_rfl
section
variable {H : Type} {enc : TypeId × Value → H} {W : World}
theorem step27 (fuel : Nat) (cs : List Value) (x : DataW H × List MemPlace) (h : DataW.trod enc Tryz.prog W 0 (fun _ => true) true fuel 27 cs = some x) : ∃ q : Sl, cs = slE.cells q ∧ (Rows.uptoBulk x.1 ≤ 1048576 → RecS W q) := by
  rcases open_ints Tryz.underlying27 Tryz.underlying5 cells5 h with ⟨rfl, _⟩ | ⟨a, len, cap, zs, rfl, _, hl, hm, hz, hx, hcell, hwz⟩
  · exact ⟨(none, 0, 0), rfl, fun _ => ⟨[], rfl, ⟨.inl rfl, by simp⟩, fun _ => rfl, Nat.zero_le _⟩⟩
  · refine ⟨(some a, len, cap), rfl, fun hb => ⟨zs.take len, ?_, ⟨?_, fun z hz' => bounds_u8 (hwz z (List.mem_of_mem_take hz'))⟩, by simp, ?_⟩⟩
    · simp only [if_true] at hz
      simp
      omega
    · simp only [if_true] at hz
      by_cases h0 : len = 0
      · left; simp [h0]
      · right
        obtain ⟨b, off, spot⟩ := a
        have hspot : spot = none := by simpa [Addr.add] using World.cell?_spot (hcell 0 (by omega))
        subst hspot
        refine ⟨b, off, rfl, fun i hi => ?_⟩
        have hi' : i < len := by simp at hi; omega
        have := hcell i (by omega)
        rw [← add_plain, this]
        simp [List.getD_eq_getElem?_getD, hi']
    · rw [hx] at hb
      have h1 := bulk_len (lits (H := H) .u8 (zs.take len))
      simp only [Rows.uptoBulk] at hb
      have h2 : (lits (H := H) .u8 (zs.take len)).length = (zs.take len).length := by simp [lits]
      omega
theorem recs_of : ∀ (ls : List Sl), (∀ q ∈ ls, RecS W q) → ∃ recs : List (List Int), ls.length = recs.length ∧ ∀ (i : Nat) (t : Sl) (r : List Int), ls[i]? = some t → recs[i]? = some r → t.2.1 = r.length ∧ Rd W t.1 r ∧ (t.1 = none → t.2.2 = 0) ∧ r.length ≤ 1048576
  | [], _ => ⟨[], rfl, fun i t r h => by simp at h⟩
  | q :: ls, h => by
    obtain ⟨recs, h1, h2⟩ := recs_of ls (fun q hq => h q (List.mem_cons_of_mem _ hq))
    obtain ⟨r, hr⟩ := h q (List.mem_cons_self ..)
    refine ⟨r :: recs, by simp [h1], fun i t r' ht hr' => ?_⟩
    cases i with
    | zero =>
      simp at ht hr'
      subst ht hr'
      exact hr
    | succ i => exact h2 i t r' (by simpa using ht) (by simpa using hr')
theorem open_recs {a0 : Option Addr} {len0 cap0 : Nat} {d0 : DataW H} {p0 : List MemPlace} (h0 : DataW.Trod enc Tryz.prog W 0 (fun _ => true) true 28 (.slice a0 len0 cap0) d0 p0) (hB : Rows.uptoBulk d0 ≤ 1048576) :
    ∃ ts recs, RecsIn W a0 ts recs ∧ recs.length = len0 ∧ len0 ≤ 1048576 := by
  obtain ⟨ls, h1, h2, h3, h4, h5⟩ := open_elems slE (S := RecS W) (B := 1048576) Tryz.underlying28 cells27 step27 h0 hB
  obtain ⟨recs, h6, h7⟩ := recs_of ls h5
  exact ⟨ls, recs, ⟨h2, h6, h7⟩, by omega, by omega⟩
theorem open_bools {a0 : Option Addr} {len0 cap0 : Nat} {d0 : DataW H} {p0 : List MemPlace} (h0 : DataW.Trod enc Tryz.prog W 0 (fun _ => true) true 33 (.slice a0 len0 cap0) d0 p0) (hB : Rows.uptoBulk d0 ≤ 1048576) :
    ∃ bs : List Bool, SRd blE W a0 bs ∧ bs.length = len0 ∧ len0 ≤ 1048576 := by
  obtain ⟨ls, h1, h2, h3, h4, h5⟩ := open_elems blE (S := fun _ => True) (B := 1048576) Tryz.underlying33 cells4 (fun fuel cs x h => by
    obtain ⟨b, e, _⟩ := DataW.trod_bool Tryz.underlying4 h
    exact ⟨b, e, fun _ => trivial⟩) h0 hB
  exact ⟨ls, h2, h1, by omega⟩
end
end Go.Proofs.YtekejnjaiccnbaaGreatDoor
