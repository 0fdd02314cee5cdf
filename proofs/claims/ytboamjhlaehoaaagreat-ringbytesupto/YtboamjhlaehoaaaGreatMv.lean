/- Several texts in one: So. -/
import Derived.Test.YtboamjhlaehoaaaGreatMc
import Derived.Deep.Slices
import Derived.Deep.Strs
/- Rings that come in. -/
namespace Go.Proofs.YtboamjhlaehoaaaGreat
open Go.ChangeShapes Go.WideShapes Go.ChangeAt Go.RowKit
set_option linter.unusedVariables false
set_option maxRecDepth 20000

theorem weights_all {H : Type} {P : Program} {e : TypeId} : ∀ {l : List (DataW H)} {d : DataW H}, d ∈ l → ∀ n ∈ d.weights P e, n ∈ DataW.weightsAll P e l
  | x :: r, d, h, n, hn => by
    simp only [DataW.weightsAll, List.mem_append]
    rcases List.mem_cons.1 h with rfl | h
    · exact Or.inl hn
    · exact Or.inr (weights_all h n hn)
theorem srd_range {α : Type} (E : Elem α) {w : World} {b off : Nat} (q : Nat → α) (n : Nat) (h : ∀ i, i < n → ∀ j v, (E.cells (q i))[j]? = some v → w.cell? ⟨b, off + (i * E.size + j), none⟩ = some v) :
    SRd E w (some ⟨b, off, none⟩) ((List.range n).map q) := by
  right
  refine ⟨b, off, rfl, fun p v hp => ?_⟩
  have hlen := (List.getElem?_eq_some_iff.1 hp).1
  rw [E.flat_len, List.length_map, List.length_range] at hlen
  have hpos := E.pos
  have hi : p / E.size < n := (Nat.div_lt_iff_lt_mul hpos).2 hlen
  have hj : p % E.size < E.size := Nat.mod_lt _ hpos
  have hg := E.flat_get ((List.range n).map q) (p / E.size) (q (p / E.size)) (p % E.size) (by simp [hi]) hj
  have hsum : p / E.size * E.size + p % E.size = p := by rw [Nat.mul_comm]; exact Nat.div_add_mod p E.size
  rw [hsum, hp] at hg
  have := h _ hi _ v hg.symm
  rwa [hsum] at this
theorem open_cells {α : Type} [Inhabited α] (E : Elem α) {P : Program} {t e : TypeId} {bytes : Nat} {S : α → Prop} {H : Type} {enc : TypeId × Value → H} {W : World}
    (ht : P.underlying t = some (.slice e)) (hc : P.cellsOf e = E.size) (hby : P.bytesOf e = bytes)
    (step : ∀ fuel cs x, DataW.trod enc P W 0 (fun _ => true) true fuel e cs = some x → ∃ q : α, cs = E.cells q ∧ ((∀ n ∈ x.1.weights P e, n ≤ reachBytes) → S q))
    {fuel : Nat} {cs : List Value} {x : DataW H × List MemPlace} (hf : DataW.trod enc P W 0 (fun _ => true) true fuel t cs = some x) :
    ∃ (a0 : Option Addr) (len0 cap0 : Nat), cs = [.slice a0 len0 cap0] ∧ ((∀ n ∈ x.1.weights P t, n ≤ reachBytes) → ∃ ls : List α, ls.length = len0 ∧ SRd E W a0 ls ∧ (a0 = none → cap0 = 0) ∧ len0 * bytes ≤ reachBytes ∧ len0 ≤ cap0 ∧ ∀ q ∈ ls, S q) := by
  rcases Go.Deep.open_slice ht hf with ⟨rfl, _⟩ | ⟨y, len0, cap0, m, k, D, Pl, rfl, _, hl, hm, hmm, rfl, hall⟩
  · exact ⟨none, 0, 0, rfl, fun _ => ⟨[], rfl, .inl rfl, fun _ => rfl, by simp, Nat.le_refl _, by simp⟩⟩
  · refine ⟨some y, len0, cap0, rfl, fun hw => ?_⟩
    simp only [if_true] at hmm
    have hreach := hw ((((List.range len0).map D).length + ((List.range (m - len0)).map fun j => D (len0 + j)).length) * P.bytesOf e) (by simp [DataW.weights, ht])
    rw [hby] at hreach
    simp only [List.length_map, List.length_range] at hreach
    have each : ∀ i, i < len0 → ∃ q : α, W.cells? 0 (y.add (i * E.size)) E.size = some (E.cells q) ∧ S q := by
      intro i hi
      obtain ⟨cs', h1, h2⟩ := hall i (by omega)
      obtain ⟨q, e1, hS⟩ := step _ _ _ h2
      rw [hc] at h1
      refine ⟨q, by rw [h1, e1], hS fun n hn => hw n ?_⟩
      simp only [DataW.weights, ht]
      refine List.mem_cons_of_mem _ (List.mem_append_left _ (weights_all (d := D i) ?_ n hn))
      exact List.mem_map.2 ⟨i, List.mem_range.2 hi, rfl⟩
    obtain ⟨q, hq⟩ := Go.Deep.choose_lt each
    refine ⟨(List.range len0).map q, by simp, ?_, by simp, ?_, hl, ?_⟩
    · by_cases h0 : len0 = 0
      · left; simp [h0]
      · obtain ⟨b, off, spot⟩ := y
        have hspot : spot = none := by
          obtain ⟨_, _, hcell⟩ := World.cells?_some (hq 0 (by omega)).1
          have := hcell 0 (by exact E.pos)
          rw [List.getElem?_eq_getElem (by rw [E.len]; exact E.pos)] at this
          simpa [Addr.add] using World.cell?_spot this
        subst hspot
        refine srd_range E q len0 fun i hi j v hv => ?_
        obtain ⟨_, hlen, hcell⟩ := World.cells?_some (hq i hi).1
        have hj := (List.getElem?_eq_some_iff.1 hv).1
        rw [E.len] at hj
        have := hcell j hj
        rw [Go.Deep.add_add, add_plain] at this
        rw [this, hv]
    · exact Nat.le_trans (Nat.mul_le_mul_right _ (by omega)) hreach
    · intro z hz
      obtain ⟨i, hi, rfl⟩ := List.mem_map.1 hz
      exact (hq i (List.mem_range.1 hi)).2
theorem cells61 : Tryz.prog.cellsOf 61 = 3 := by kernel_rfl
theorem cells23 : Tryz.prog.cellsOf 23 = 1 := by kernel_rfl
theorem cells25 : Tryz.prog.cellsOf 25 = 2 := by kernel_rfl
theorem cells3 : Tryz.prog.cellsOf 3 = 1 := by kernel_rfl
theorem cells22 : Tryz.prog.cellsOf 22 = 1 := by kernel_rfl
theorem cells36 : Tryz.prog.cellsOf 36 = 1 := by kernel_rfl
theorem cells43 : Tryz.prog.cellsOf 43 = 1 := by kernel_rfl
theorem bytes61 : Tryz.prog.bytesOf 61 = 40 := by kernel_rfl
theorem bytes43 : Tryz.prog.bytesOf 43 = 4 := by kernel_rfl
/-- What a member's tokens are. -/
def MemS (W : World) (q : MRow) : Prop := ∃ ts : List Int, q.2.2.2.1 = ts.length ∧ SRd wordE W q.2.2.1 ts ∧ (q.2.2.1 = none → q.2.2.2.2 = 0) ∧ ts.length ≤ 35184372088832 ∧ ∀ t ∈ ts, 0 ≤ t ∧ t < 4294967296
section
variable {H : Type} {enc : TypeId × Value → H} {W : World}
theorem wrap_u32 {v : Int} (h0 : (Lit.int IntKind.u32 v).wf = true) : 0 ≤ v ∧ v < 4294967296 := by
  simp [Lit.wf, IntKind.min, IntKind.max, IntKind.bits, IntKind.signed] at h0
  omega
theorem wrap_u64 {v : Int} (h0 : (Lit.int IntKind.u64 v).wf = true) : 0 ≤ v ∧ v ≤ 18446744073709551615 := by
  simp [Lit.wf, IntKind.min, IntKind.max, IntKind.bits, IntKind.signed] at h0
  omega
theorem step43 (fuel : Nat) (cs : List Value) (x : DataW H × List MemPlace) (h : DataW.trod enc Tryz.prog W 0 (fun _ => true) true fuel 43 cs = some x) : ∃ q : Int, cs = wordE.cells q ∧ ((∀ n ∈ x.1.weights Tryz.prog 43, n ≤ reachBytes) → 0 ≤ q ∧ q < 4294967296) := by
  obtain ⟨s1, e1, rfl, hw⟩ := DataW.trod_int Tryz.underlying43 h
  exact ⟨s1, e1, fun _ => wrap_u32 hw⟩
theorem step61 (fuel : Nat) (cs : List Value) (x : DataW H × List MemPlace) (h : DataW.trod enc Tryz.prog W 0 (fun _ => true) true fuel 61 cs = some x) : ∃ q : MRow, cs = memE.cells q ∧ ((∀ n ∈ x.1.weights Tryz.prog 61, n ≤ reachBytes) → MemS W q) := by
  obtain ⟨y0, y1, y2, n, rfl, hl, g0, g1, g2⟩ := Go.Deep.trod_struct3 Tryz.underlying61 h
  rw [cells61] at hl
  match cs, hl with
  | [c0, c1, c2], _ =>
    simp only [cells3, cells36, List.drop, List.take] at g0 g1 g2
    obtain ⟨s0, e0, rfl, _⟩ := DataW.trod_int Tryz.underlying3 g0
    obtain ⟨s1, e1, rfl, _⟩ := DataW.trod_int Tryz.underlying3 g1
    obtain ⟨a0, len0, cap0, e2, hls⟩ := open_cells wordE (S := fun q => 0 ≤ q ∧ q < 4294967296) Tryz.underlying36 cells43 bytes43 step43 g2
    simp only [List.cons.injEq, and_true] at e0 e1 e2
    subst e0; subst e1; subst e2
    refine ⟨(s0, s1, (a0, len0, cap0)), rfl, fun hw => ?_⟩
    obtain ⟨ls, k1, k2, k3, k4, k5, k6⟩ := hls (fun n hn => hw n (by
      simp only [DataW.weights, Tryz.underlying61]
      simp [DataW.weightsEach, hn]))
    exact ⟨ls, k1.symm, k2, k3, by simp only [reachBytes] at k4; omega, k6⟩
theorem mems_of : ∀ (ls : List MRow), (∀ q ∈ ls, MemS W q) → ∃ Q : List Mem, ls.length = Q.length ∧ (∀ (i : Nat) (r : MRow) (m : Mem), ls[i]? = some r → Q[i]? = some m → MRd W r m) ∧ (∀ m ∈ Q, m.2.2.length ≤ 35184372088832) ∧ (∀ m ∈ Q, ∀ t ∈ m.2.2, 0 ≤ t ∧ t < 4294967296)
  | [], _ => ⟨[], rfl, fun i t r h => by simp at h, by simp, by simp⟩
  | q :: ls, h => by
    obtain ⟨Q, h1, h2, h3, h4⟩ := mems_of ls (fun q hq => h q (List.mem_cons_of_mem _ hq))
    obtain ⟨l, hr⟩ := h q (List.mem_cons_self ..)
    refine ⟨(q.1, q.2.1, l) :: Q, by simp [h1], fun i t r' ht hr' => ?_, fun m hm => ?_, fun m hm => ?_⟩
    · cases i with
      | zero =>
        simp at ht hr'
        subst ht hr'
        exact ⟨rfl, rfl, hr.1, hr.2.1, hr.2.2.1⟩
      | succ i => exact h2 i t r' (by simpa using ht) (by simpa using hr')
    · rcases List.mem_cons.1 hm with rfl | hm
      · exact hr.2.2.2.1
      · exact h3 m hm
    · rcases List.mem_cons.1 hm with rfl | hm
      · exact hr.2.2.2.2
      · exact h4 m hm
theorem open_ring {v : Value} {cs : Array Value} (hv : v = .agg cs) {d0 : DataW H} {p0 : List MemPlace} {ts : List TypeId} {ds : List (DataW H)} (h0 : DataW.Trod enc Tryz.prog W 0 (fun _ => true) true 25 v d0 p0) (hsz : (DataW.weightsEach Tryz.prog ts ds).all (· ≤ reachBytes) = true) {j : Nat} (ht : ts[j]? = some 25) (hd : ds[j]? = some d0) :
    ∃ (E : Int) (a : Option Addr) (c : Nat) (raw : List MRow) (ms : List Mem), v = .agg #[.int .u64 E, .slice a ms.length c] ∧ MsRd W a ms raw ∧ (a = none → c = 0) ∧ (0 ≤ E ∧ E ≤ 18446744073709551615) ∧ ms.length ≤ 3518437208800 ∧ (∀ m ∈ ms, m.2.2.length ≤ 35184372088832) ∧ (∀ m ∈ ms, ∀ t ∈ m.2.2, 0 ≤ t ∧ t < 4294967296) := by
  subst hv
  obtain ⟨fuel, hf⟩ := h0
  obtain ⟨y0, y1, n, hxy, hl, g0, g1⟩ := trod_struct2 Tryz.underlying25 hf
  simp only [Prod.mk.injEq] at hxy
  obtain ⟨rfl, rfl⟩ := hxy
  rw [cells25] at hl
  obtain ⟨cs⟩ := cs
  simp only [Value.cells] at hl g0 g1
  match cs, hl with
  | [c0, c1], _ =>
    simp only [cells22, cells23, List.drop, List.take] at g0 g1
    obtain ⟨s0, e0, rfl, hw0⟩ := DataW.trod_int Tryz.underlying22 g0
    obtain ⟨a, len, cap, e, hls⟩ := open_cells memE (S := MemS W) Tryz.underlying23 cells61 bytes61 step61 g1
    simp only [List.cons.injEq, and_true] at e0 e
    subst e0; subst e
    obtain ⟨ls, k1, k2, k3, k4, k5, k6⟩ := hls (fun n hn => by
      have := List.all_eq_true.1 hsz n (DataW.weights_mem_each ht hd n (by
        simp only [DataW.weights, Tryz.underlying25]
        simp [DataW.weightsEach, hn]))
      simpa using this)
    obtain ⟨Q, q1, q2, q3, q4⟩ := mems_of ls k6
    refine ⟨s0, a, cap, ls, Q, ?_, ⟨k2, q1, q2⟩, k3, wrap_u64 hw0, ?_, q3, q4⟩
    · rw [← q1, k1]
    · simp only [reachBytes] at k4; omega
end
end Go.Proofs.YtboamjhlaehoaaaGreat

