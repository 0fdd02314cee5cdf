/- What comes in: samples, a sample, limits. -/
import Derived.Test.YthkalbiglfgleaaLg
import Derived.Deep.Slices
import Derived.Deep.Strs
import Derived.Lib.SmallJoins
namespace Go.Proofs.Ythkalbiglfgleaa
open Go.ChangeShapes Go.WideShapes Go.ChangeAt Go.RowKit
set_option linter.unusedVariables false
set_option maxRecDepth 20000

theorem weights_all {H : Type} {P : Program} {e : TypeId} : ∀ {l : List (DataW H)} {d : DataW H}, d ∈ l → ∀ n ∈ d.weights P e, n ∈ DataW.weightsAll P e l
  | x :: r, d, h, n, hn => by
    simp only [DataW.weightsAll, List.mem_append]
    rcases List.mem_cons.1 h with rfl | h
    · exact Or.inl hn
    · exact Or.inr (weights_all h n hn)
theorem srd_range {α : Type} (E : Elem α) {w : World} {b off : Nat} (q : Nat → α) (n : Nat) (h : ∀ i, i < n → ∀ j v, (E.cells (q i))[j]? = some v → w.cell? ⟨b, off + (i * E.size + j), none⟩ = some v) :
    SRd E w (some ⟨b, off, none⟩) ((List.range n).map q) := by
  right
  refine ⟨b, off, rfl, fun p v hp => ?_⟩
  have hlen := (List.getElem?_eq_some_iff.1 hp).1
  rw [E.flat_len, List.length_map, List.length_range] at hlen
  have hpos := E.pos
  have hi : p / E.size < n := (Nat.div_lt_iff_lt_mul hpos).2 hlen
  have hj : p % E.size < E.size := Nat.mod_lt _ hpos
  have hg := E.flat_get ((List.range n).map q) (p / E.size) (q (p / E.size)) (p % E.size) (by simp [hi]) hj
  have hsum : p / E.size * E.size + p % E.size = p := by rw [Nat.mul_comm]; exact Nat.div_add_mod p E.size
  rw [hsum, hp] at hg
  have := h _ hi _ v hg.symm
  rwa [hsum] at this
theorem open_cells {α : Type} [Inhabited α] (E : Elem α) {P : Program} {t e : TypeId} {bytes : Nat} {S : α → Prop} {H : Type} {enc : TypeId × Value → H} {W : World}
    (ht : P.underlying t = some (.slice e)) (hc : P.cellsOf e = E.size) (hby : P.bytesOf e = bytes)
    (step : ∀ fuel cs x, DataW.trod enc P W 0 (fun _ => true) true fuel e cs = some x → ∃ q : α, cs = E.cells q ∧ ((∀ n ∈ x.1.weights P e, n ≤ reachBytes) → S q))
    {fuel : Nat} {cs : List Value} {x : DataW H × List MemPlace} (hf : DataW.trod enc P W 0 (fun _ => true) true fuel t cs = some x) :
    ∃ (a0 : Option Addr) (len0 cap0 : Nat), cs = [.slice a0 len0 cap0] ∧ ((∀ n ∈ x.1.weights P t, n ≤ reachBytes) → ∃ ls : List α, ls.length = len0 ∧ SRd E W a0 ls ∧ (a0 = none → cap0 = 0) ∧ len0 * bytes ≤ reachBytes ∧ len0 ≤ cap0 ∧ ∀ q ∈ ls, S q) := by
  rcases Go.Deep.open_slice ht hf with ⟨rfl, _⟩ | ⟨y, len0, cap0, m, k, D, Pl, rfl, _, hl, hm, hmm, rfl, hall⟩
  · exact ⟨none, 0, 0, rfl, fun _ => ⟨[], rfl, .inl rfl, fun _ => rfl, by simp, Nat.le_refl _, by simp⟩⟩
  · refine ⟨some y, len0, cap0, rfl, fun hw => ?_⟩
    simp only [if_true] at hmm
    have hreach := hw ((((List.range len0).map D).length + ((List.range (m - len0)).map fun j => D (len0 + j)).length) * P.bytesOf e) (by simp [DataW.weights, ht])
    rw [hby] at hreach
    simp only [List.length_map, List.length_range] at hreach
    have each : ∀ i, i < len0 → ∃ q : α, W.cells? 0 (y.add (i * E.size)) E.size = some (E.cells q) ∧ S q := by
      intro i hi
      obtain ⟨cs', h1, h2⟩ := hall i (by omega)
      obtain ⟨q, e1, hS⟩ := step _ _ _ h2
      rw [hc] at h1
      refine ⟨q, by rw [h1, e1], hS fun n hn => hw n ?_⟩
      simp only [DataW.weights, ht]
      refine List.mem_cons_of_mem _ (List.mem_append_left _ (weights_all (d := D i) ?_ n hn))
      exact List.mem_map.2 ⟨i, List.mem_range.2 hi, rfl⟩
    obtain ⟨q, hq⟩ := Go.Deep.choose_lt each
    refine ⟨(List.range len0).map q, by simp, ?_, by simp, ?_, hl, ?_⟩
    · by_cases h0 : len0 = 0
      · left; simp [h0]
      · obtain ⟨b, off, spot⟩ := y
        have hspot : spot = none := by
          obtain ⟨_, _, hcell⟩ := World.cells?_some (hq 0 (by omega)).1
          have := hcell 0 (by exact E.pos)
          rw [List.getElem?_eq_getElem (by rw [E.len]; exact E.pos)] at this
          simpa [Addr.add] using World.cell?_spot this
        subst hspot
        refine srd_range E q len0 fun i hi j v hv => ?_
        obtain ⟨_, hlen, hcell⟩ := World.cells?_some (hq i hi).1
        have hj := (List.getElem?_eq_some_iff.1 hv).1
        rw [E.len] at hj
        have := hcell j hj
        rw [Go.Deep.add_add, add_plain] at this
        rw [this, hv]
    · exact Nat.le_trans (Nat.mul_le_mul_right _ (by omega)) hreach
    · intro z hz
      obtain ⟨i, hi, rfl⟩ := List.mem_map.1 hz
      exact (hq i (List.mem_range.1 hi)).2
theorem cells37 : Try.prog.cellsOf 37 = 3 := by kernel_rfl
theorem cells35 : Try.prog.cellsOf 35 = 1 := by kernel_rfl
theorem cells25 : Try.prog.cellsOf 25 = 1 := by kernel_rfl
theorem cells24 : Try.prog.cellsOf 24 = 4 := by kernel_rfl
theorem cells2 : Try.prog.cellsOf 2 = 1 := by kernel_rfl
theorem cells3 : Try.prog.cellsOf 3 = 1 := by kernel_rfl
theorem cells4 : Try.prog.cellsOf 4 = 1 := by kernel_rfl
theorem cells49 : Try.prog.cellsOf 49 = 2 := by kernel_rfl
theorem cells9 : Try.prog.cellsOf 9 = 1 := by kernel_rfl
theorem bytes49 : Try.prog.bytesOf 49 = 32 := by kernel_rfl
theorem bytes37 : Try.prog.bytesOf 37 = 40 := by kernel_rfl
/-- What a sample's labels are. -/
def SmpS (W : World) (q : Sv × Int × Int) : Prop := ∃ ls : List Lab, OneIs W q (ls, q.2)
theorem wfu {v : Int} (h0 : (Lit.int IntKind.u64 v).wf = true) : 0 ≤ v ∧ v ≤ 18446744073709551615 := by
  simp [Lit.wf, IntKind.min, IntKind.max, IntKind.bits, IntKind.signed] at h0
  omega
section
variable {H : Type} {enc : TypeId × Value → H} {W : World}
theorem step49 (fuel : Nat) (cs : List Value) (x : DataW H × List MemPlace) (h : DataW.trod enc Try.prog W 0 (fun _ => true) true fuel 49 cs = some x) : ∃ q : Lab, cs = labE.cells q ∧ ((∀ n ∈ x.1.weights Try.prog 49, n ≤ reachBytes) → True) := by
  obtain ⟨y0, y1, n, rfl, hl, g0, g1⟩ := trod_struct2 Try.underlying49 h
  rw [cells49] at hl
  match cs, hl with
  | [c0, c1], _ =>
    simp only [cells9, List.drop, List.take] at g0 g1
    obtain ⟨s0, e0, rfl, _⟩ := DataW.trod_string Try.underlying9 g0
    obtain ⟨s1, e1, rfl, _⟩ := DataW.trod_string Try.underlying9 g1
    simp only [List.cons.injEq, and_true] at e0 e1
    subst e0; subst e1
    exact ⟨(s0, s1), rfl, fun _ => trivial⟩
theorem step37 (fuel : Nat) (cs : List Value) (x : DataW H × List MemPlace) (h : DataW.trod enc Try.prog W 0 (fun _ => true) true fuel 37 cs = some x) : ∃ q : Sv × Int × Int, cs = smpE.cells q ∧ ((∀ n ∈ x.1.weights Try.prog 37, n ≤ reachBytes) → SmpS W q) := by
  obtain ⟨y0, y1, y2, n, rfl, hl, g0, g1, g2⟩ := Go.Deep.trod_struct3 Try.underlying37 h
  rw [cells37] at hl
  match cs, hl with
  | [c0, c1, c2], _ =>
    simp only [cells35, cells2, cells25, List.drop, List.take] at g0 g1 g2
    obtain ⟨s1, e1, rfl, _⟩ := DataW.trod_int Try.underlying2 g1
    obtain ⟨s2, e2, rfl, _⟩ := DataW.trod_int Try.underlying25 g2
    obtain ⟨a0, len0, cap0, e0, hls⟩ := open_cells labE (S := fun _ => True) Try.underlying35 cells49 bytes49 step49 g0
    simp only [List.cons.injEq, and_true] at e0 e1 e2
    subst e0; subst e1; subst e2
    refine ⟨((a0, len0, cap0), s1, s2), rfl, fun hw => ?_⟩
    obtain ⟨ls, k1, k2, k3, k4, k5, k6⟩ := hls (fun n hn => hw n (by
      simp only [DataW.weights, Try.underlying37]
      simp [DataW.weightsEach, hn]))
    exact ⟨ls, k1.symm, k2, k3, by simp only [reachBytes] at k4; simp only; omega, rfl⟩
theorem smps_of : ∀ (ls : List (Sv × Int × Int)), (∀ q ∈ ls, SmpS W q) → ∃ Q : List Smp, ls.length = Q.length ∧ ∀ (i : Nat) (r : Sv × Int × Int) (s : Smp), ls[i]? = some r → Q[i]? = some s → OneIs W r s
  | [], _ => ⟨[], rfl, fun i t r h => by simp at h⟩
  | q :: ls, h => by
    obtain ⟨Q, h1, h2⟩ := smps_of ls (fun q hq => h q (List.mem_cons_of_mem _ hq))
    obtain ⟨l, hr⟩ := h q (List.mem_cons_self ..)
    refine ⟨(l, q.2) :: Q, by simp [h1], fun i t r' ht hr' => ?_⟩
    cases i with
    | zero =>
      simp at ht hr'
      subst ht hr'
      exact hr
    | succ i => exact h2 i t r' (by simpa using ht) (by simpa using hr')
theorem open_smps {a0 : Option Addr} {len0 cap0 : Nat} {d0 : DataW H} {p0 : List MemPlace} {ts : List TypeId} {ds : List (DataW H)} (h0 : DataW.Trod enc Try.prog W 0 (fun _ => true) true 22 (.slice a0 len0 cap0) d0 p0) (hsz : (DataW.weightsEach Try.prog ts ds).all (· ≤ reachBytes) = true) {j : Nat} (ht : ts[j]? = some 22) (hd : ds[j]? = some d0) :
    ∃ raw Q, Q.length = len0 ∧ SmpRd W a0 raw Q ∧ Q.length ≤ 3518437208882 ∧ Q.length ≤ cap0 := by
  obtain ⟨fuel, hf⟩ := h0
  obtain ⟨a, len, cap, e, hls⟩ := open_cells smpE (S := SmpS W) Try.underlying22 cells37 bytes37 step37 hf
  simp [Value.cells] at e
  obtain ⟨rfl, rfl, rfl⟩ := e
  obtain ⟨ls, k1, k2, k3, k4, k5, k6⟩ := hls (fun n hn => by
    simpa using List.all_eq_true.1 hsz _ (DataW.weights_mem_each ht hd n hn))
  obtain ⟨Q, q1, q2⟩ := smps_of ls k6
  exact ⟨ls, Q, by omega, ⟨k2, q1, q2⟩, by simp only [reachBytes] at k4; omega, by omega⟩
theorem open_smp {v : Value} {cs : Array Value} (hv : v = .agg cs) {d0 : DataW H} {p0 : List MemPlace} {ts : List TypeId} {ds : List (DataW H)} (h0 : DataW.Trod enc Try.prog W 0 (fun _ => true) true 37 v d0 p0) (hsz : (DataW.weightsEach Try.prog ts ds).all (· ≤ reachBytes) = true) {j : Nat} (ht : ts[j]? = some 37) (hd : ds[j]? = some d0) :
    ∃ (la : Option Addr) (ls : List Lab) (lc : Nat) (T V : Int), v = smpV la ls.length lc T V ∧ OneIs W ((la, ls.length, lc), T, V) (ls, T, V) := by
  subst hv
  obtain ⟨fuel, hf⟩ := h0
  obtain ⟨⟨⟨la, ln, lc⟩, T, V⟩, hc, hS⟩ := step37 fuel _ _ hf
  obtain ⟨ls, h1⟩ := hS (fun n hn => by simpa using List.all_eq_true.1 hsz _ (DataW.weights_mem_each ht hd n hn))
  have e1 : ln = ls.length := h1.1
  subst e1
  refine ⟨la, ls, lc, T, V, ?_, h1⟩
  obtain ⟨cs⟩ := cs
  simp only [Value.cells] at hc
  rw [hc]
  rfl
theorem open_lim {v : Value} {cs : Array Value} (hv : v = .agg cs) {d0 : DataW H} {p0 : List MemPlace} (h0 : DataW.Trod enc Try.prog W 0 (fun _ => true) true 24 v d0 p0) :
    ∃ (S m P : Int) (H : Bool), v = limV S m P H := by
  subst hv
  obtain ⟨fuel, hf⟩ := h0
  obtain ⟨y0, y1, y2, y3, n, hxy, hl, g0, g1, g2, g3⟩ := Go.Joins.trod_struct4 Try.underlying24 hf
  rw [cells24] at hl
  obtain ⟨cs⟩ := cs
  simp only [Value.cells] at hl g0 g1 g2 g3
  match cs, hl with
  | [c0, c1, c2, c3], _ =>
    simp only [cells3, cells4, List.drop, List.take] at g0 g1 g2 g3
    obtain ⟨s0, e0, _, _⟩ := DataW.trod_int Try.underlying3 g0
    obtain ⟨s1, e1, _, _⟩ := DataW.trod_int Try.underlying3 g1
    obtain ⟨s2, e2, _, _⟩ := DataW.trod_int Try.underlying3 g2
    obtain ⟨s3, e3, _⟩ := DataW.trod_bool Try.underlying4 g3
    simp only [List.cons.injEq, and_true] at e0 e1 e2 e3
    subst e0; subst e1; subst e2; subst e3
    exact ⟨s0, s1, s2, s3, rfl⟩
end
end Go.Proofs.Ythkalbiglfgleaa
