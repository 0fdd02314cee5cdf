/- Several texts in one: Vn, Sz. -/
import Derived.Test.YtaljjemickonaaaGreatNu
import Derived.Test.YtaljjemickonaaaGreatMv
/- Rings: RingChanges: the walk, as the frame wants it. -/
namespace Go.Proofs.YtaljjemickonaaaGreat
open Go.RowKit
set_option linter.unusedVariables false

theorem ringChanges_walk (E : Int) (a : Option Addr) (c : Nat) (raw : List MRow) (ms : List Mem) (id : Int) (w : World) (hr : MsRd w a ms raw) (hnil : a = none → c = 0) (hE : 0 ≤ E ∧ E ≤ 18446744073709551615) (hz : ms.length ≤ 3518437208800) (hz2 : ∀ s ∈ ms, s.2.2.length ≤ 35184372088000) :
    Calls Tryz.prog 3 #[.agg #[.int .u64 E, .slice a ms.length c], .int .i64 id] w fun e w' => e = .returned (.bool true) ∧ Below w.heap.size w w' := by
  refine (changes_walk E a _ c raw ms id w hr hnil hE rfl hz hz2).mono ?_
  rintro e w' ⟨rfl, hg⟩
  exact ⟨rfl, (Below.refl _ w).grown hg (Nat.le_refl _) (fun k hk => by cases hk)⟩
end Go.Proofs.YtaljjemickonaaaGreat

/- Rings that come in, with a sharper bound of the tokens. -/
namespace Go.Proofs.YtaljjemickonaaaGreat
open Go.ChangeShapes Go.WideShapes Go.ChangeAt Go.RowKit
set_option linter.unusedVariables false
set_option maxRecDepth 20000

/-- What a member's tokens are. -/
def MemS3 (W : World) (q : MRow) : Prop := ∃ ts : List Int, q.2.2.2.1 = ts.length ∧ SRd wordE W q.2.2.1 ts ∧ (q.2.2.1 = none → q.2.2.2.2 = 0) ∧ ts.length ≤ 35184372088000 ∧ ∀ t ∈ ts, 0 ≤ t ∧ t < 4294967296
section
variable {H : Type} {enc : TypeId × Value → H} {W : World}
theorem step61b (fuel : Nat) (cs : List Value) (x : DataW H × List MemPlace) (h : DataW.trod enc Tryz.prog W 0 (fun _ => true) true fuel 61 cs = some x) : ∃ q : MRow, cs = memE.cells q ∧ ((∀ n ∈ x.1.weights Tryz.prog 61, n ≤ reachBytes) → MemS3 W q) := by
  obtain ⟨y0, y1, y2, n, rfl, hl, g0, g1, g2⟩ := Go.Deep.trod_struct3 Tryz.underlying61 h
  rw [cells61] at hl
  match cs, hl with
  | [c0, c1, c2], _ =>
    simp only [cells3, cells36, List.drop, List.take] at g0 g1 g2
    obtain ⟨s0, e0, rfl, _⟩ := DataW.trod_int Tryz.underlying3 g0
    obtain ⟨s1, e1, rfl, _⟩ := DataW.trod_int Tryz.underlying3 g1
    obtain ⟨a0, len0, cap0, e2, hls⟩ := open_cells wordE (S := fun q => 0 ≤ q ∧ q < 4294967296) Tryz.underlying36 cells43 bytes43 step43 g2
    simp only [List.cons.injEq, and_true] at e0 e1 e2
    subst e0; subst e1; subst e2
    refine ⟨(s0, s1, (a0, len0, cap0)), rfl, fun hw => ?_⟩
    obtain ⟨ls, k1, k2, k3, k4, k5, k6⟩ := hls (fun n hn => hw n (by
      simp only [DataW.weights, Tryz.underlying61]
      simp [DataW.weightsEach, hn]))
    exact ⟨ls, k1.symm, k2, k3, by simp only [reachBytes] at k4; omega, k6⟩
theorem mems_of3 : ∀ (ls : List MRow), (∀ q ∈ ls, MemS3 W q) → ∃ Q : List Mem, ls.length = Q.length ∧ (∀ (i : Nat) (r : MRow) (m : Mem), ls[i]? = some r → Q[i]? = some m → MRd W r m) ∧ (∀ m ∈ Q, m.2.2.length ≤ 35184372088000) ∧ (∀ m ∈ Q, ∀ t ∈ m.2.2, 0 ≤ t ∧ t < 4294967296)
  | [], _ => ⟨[], rfl, fun i t r h => by simp at h, by simp, by simp⟩
  | q :: ls, h => by
    obtain ⟨Q, h1, h2, h3, h4⟩ := mems_of3 ls (fun q hq => h q (List.mem_cons_of_mem _ hq))
    obtain ⟨l, hr⟩ := h q (List.mem_cons_self ..)
    refine ⟨(q.1, q.2.1, l) :: Q, by simp [h1], fun i t r' ht hr' => ?_, fun m hm => ?_, fun m hm => ?_⟩
    · cases i with
      | zero =>
        simp at ht hr'
        subst ht hr'
        exact ⟨rfl, rfl, hr.1, hr.2.1, hr.2.2.1⟩
      | succ i => exact h2 i t r' (by simpa using ht) (by simpa using hr')
    · rcases List.mem_cons.1 hm with rfl | hm
      · exact hr.2.2.2.1
      · exact h3 m hm
    · rcases List.mem_cons.1 hm with rfl | hm
      · exact hr.2.2.2.2
      · exact h4 m hm
theorem open_ring3 {v : Value} {cs : Array Value} (hv : v = .agg cs) {d0 : DataW H} {p0 : List MemPlace} {ts : List TypeId} {ds : List (DataW H)} (h0 : DataW.Trod enc Tryz.prog W 0 (fun _ => true) true 25 v d0 p0) (hsz : (DataW.weightsEach Tryz.prog ts ds).all (· ≤ reachBytes) = true) {j : Nat} (ht : ts[j]? = some 25) (hd : ds[j]? = some d0) :
    ∃ (E : Int) (a : Option Addr) (c : Nat) (raw : List MRow) (ms : List Mem), v = .agg #[.int .u64 E, .slice a ms.length c] ∧ MsRd W a ms raw ∧ (a = none → c = 0) ∧ (0 ≤ E ∧ E ≤ 18446744073709551615) ∧ ms.length ≤ 3518437208800 ∧ (∀ m ∈ ms, m.2.2.length ≤ 35184372088000) ∧ (∀ m ∈ ms, ∀ t ∈ m.2.2, 0 ≤ t ∧ t < 4294967296) := by
  subst hv
  obtain ⟨fuel, hf⟩ := h0
  obtain ⟨y0, y1, n, hxy, hl, g0, g1⟩ := trod_struct2 Tryz.underlying25 hf
  simp only [Prod.mk.injEq] at hxy
  obtain ⟨rfl, rfl⟩ := hxy
  rw [cells25] at hl
  obtain ⟨cs⟩ := cs
  simp only [Value.cells] at hl g0 g1
  match cs, hl with
  | [c0, c1], _ =>
    simp only [cells22, cells23, List.drop, List.take] at g0 g1
    obtain ⟨s0, e0, rfl, hw0⟩ := DataW.trod_int Tryz.underlying22 g0
    obtain ⟨a, len, cap, e, hls⟩ := open_cells memE (S := MemS3 W) Tryz.underlying23 cells61 bytes61 step61b g1
    simp only [List.cons.injEq, and_true] at e0 e
    subst e0; subst e
    obtain ⟨ls, k1, k2, k3, k4, k5, k6⟩ := hls (fun n hn => by
      have := List.all_eq_true.1 hsz n (DataW.weights_mem_each ht hd n (by
        simp only [DataW.weights, Tryz.underlying25]
        simp [DataW.weightsEach, hn]))
      simpa using this)
    obtain ⟨Q, q1, q2, q3, q4⟩ := mems_of3 ls k6
    refine ⟨s0, a, cap, ls, Q, ?_, ⟨k2, q1, q2⟩, k3, wrap_u64 hw0, ?_, q3, q4⟩
    · rw [← q1, k1]
    · simp only [reachBytes] at k4; omega
end
end Go.Proofs.YtaljjemickonaaaGreat

