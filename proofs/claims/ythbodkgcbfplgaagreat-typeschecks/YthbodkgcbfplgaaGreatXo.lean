/- What comes in: nodes. -/
import Derived.Test.YthbodkgcbfplgaaGreatKl
import Derived.Deep.Slices
import Derived.Deep.Strs
import Derived.Lib.SmallJoins
namespace Go.Proofs.YthbodkgcbfplgaaGreat
open Go.ChangeShapes Go.WideShapes Go.ChangeAt Go.RowKit
set_option linter.unusedVariables false
set_option maxRecDepth 20000

theorem weights_all {H : Type} {P : Program} {e : TypeId} : ∀ {l : List (DataW H)} {d : DataW H}, d ∈ l → ∀ n ∈ d.weights P e, n ∈ DataW.weightsAll P e l
  | x :: r, d, h, n, hn => by
    simp only [DataW.weightsAll, List.mem_append]
    rcases List.mem_cons.1 h with rfl | h
    · exact Or.inl hn
    · exact Or.inr (weights_all h n hn)
theorem srd_range {α : Type} (E : Elem α) {w : World} {b off : Nat} (q : Nat → α) (n : Nat) (h : ∀ i, i < n → ∀ j v, (E.cells (q i))[j]? = some v → w.cell? ⟨b, off + (i * E.size + j), none⟩ = some v) :
    SRd E w (some ⟨b, off, none⟩) ((List.range n).map q) := by
  right
  refine ⟨b, off, rfl, fun p v hp => ?_⟩
  have hlen := (List.getElem?_eq_some_iff.1 hp).1
  rw [E.flat_len, List.length_map, List.length_range] at hlen
  have hpos := E.pos
  have hi : p / E.size < n := (Nat.div_lt_iff_lt_mul hpos).2 hlen
  have hj : p % E.size < E.size := Nat.mod_lt _ hpos
  have hg := E.flat_get ((List.range n).map q) (p / E.size) (q (p / E.size)) (p % E.size) (by simp [hi]) hj
  have hsum : p / E.size * E.size + p % E.size = p := by rw [Nat.mul_comm]; exact Nat.div_add_mod p E.size
  rw [hsum, hp] at hg
  have := h _ hi _ v hg.symm
  rwa [hsum] at this
theorem open_cells {α : Type} [Inhabited α] (E : Elem α) {P : Program} {t e : TypeId} {bytes : Nat} {S : α → Prop} {H : Type} {enc : TypeId × Value → H} {W : World}
    (ht : P.underlying t = some (.slice e)) (hc : P.cellsOf e = E.size) (hby : P.bytesOf e = bytes)
    (step : ∀ fuel cs x, DataW.trod enc P W 0 (fun _ => true) true fuel e cs = some x → ∃ q : α, cs = E.cells q ∧ ((∀ n ∈ x.1.weights P e, n ≤ reachBytes) → S q))
    {fuel : Nat} {cs : List Value} {x : DataW H × List MemPlace} (hf : DataW.trod enc P W 0 (fun _ => true) true fuel t cs = some x) :
    ∃ (a0 : Option Addr) (len0 cap0 : Nat), cs = [.slice a0 len0 cap0] ∧ ((∀ n ∈ x.1.weights P t, n ≤ reachBytes) → ∃ ls : List α, ls.length = len0 ∧ SRd E W a0 ls ∧ (a0 = none → cap0 = 0) ∧ len0 * bytes ≤ reachBytes ∧ len0 ≤ cap0 ∧ ∀ q ∈ ls, S q) := by
  rcases Go.Deep.open_slice ht hf with ⟨rfl, _⟩ | ⟨y, len0, cap0, m, k, D, Pl, rfl, _, hl, hm, hmm, rfl, hall⟩
  · exact ⟨none, 0, 0, rfl, fun _ => ⟨[], rfl, .inl rfl, fun _ => rfl, by simp, Nat.le_refl _, by simp⟩⟩
  · refine ⟨some y, len0, cap0, rfl, fun hw => ?_⟩
    simp only [if_true] at hmm
    have hreach := hw ((((List.range len0).map D).length + ((List.range (m - len0)).map fun j => D (len0 + j)).length) * P.bytesOf e) (by simp [DataW.weights, ht])
    rw [hby] at hreach
    simp only [List.length_map, List.length_range] at hreach
    have each : ∀ i, i < len0 → ∃ q : α, W.cells? 0 (y.add (i * E.size)) E.size = some (E.cells q) ∧ S q := by
      intro i hi
      obtain ⟨cs', h1, h2⟩ := hall i (by omega)
      obtain ⟨q, e1, hS⟩ := step _ _ _ h2
      rw [hc] at h1
      refine ⟨q, by rw [h1, e1], hS fun n hn => hw n ?_⟩
      simp only [DataW.weights, ht]
      refine List.mem_cons_of_mem _ (List.mem_append_left _ (weights_all (d := D i) ?_ n hn))
      exact List.mem_map.2 ⟨i, List.mem_range.2 hi, rfl⟩
    obtain ⟨q, hq⟩ := Go.Deep.choose_lt each
    refine ⟨(List.range len0).map q, by simp, ?_, by simp, ?_, hl, ?_⟩
    · by_cases h0 : len0 = 0
      · left; simp [h0]
      · obtain ⟨b, off, spot⟩ := y
        have hspot : spot = none := by
          obtain ⟨_, _, hcell⟩ := World.cells?_some (hq 0 (by omega)).1
          have := hcell 0 (by exact E.pos)
          rw [List.getElem?_eq_getElem (by rw [E.len]; exact E.pos)] at this
          simpa [Addr.add] using World.cell?_spot this
        subst hspot
        refine srd_range E q len0 fun i hi j v hv => ?_
        obtain ⟨_, hlen, hcell⟩ := World.cells?_some (hq i hi).1
        have hj := (List.getElem?_eq_some_iff.1 hv).1
        rw [E.len] at hj
        have := hcell j hj
        rw [Go.Deep.add_add, add_plain] at this
        rw [this, hv]
    · exact Nat.le_trans (Nat.mul_le_mul_right _ (by omega)) hreach
    · intro z hz
      obtain ⟨i, hi, rfl⟩ := List.mem_map.1 hz
      exact (hq i (List.mem_range.1 hi)).2
section
variable {H : Type} {enc : TypeId × Value → H} {P : Program} {w : World} {base : Nat} {spare : Nat → Bool} {held : Bool}
theorem trod_struct10 {t : TypeId} {f0 f1 f2 f3 f4 f5 f6 f7 f8 f9 : Field} {fuel : Nat} {cs : List Value} {x : DataW H × List MemPlace} (ht : P.underlying t = some (.struct #[f0, f1, f2, f3, f4, f5, f6, f7, f8, f9])) (h : DataW.trod enc P w base (fun _ => true) true fuel t cs = some x) :
    ∃ y0 y1 y2 y3 y4 y5 y6 y7 y8 y9 n, x.1 = .agg [y0.1, y1.1, y2.1, y3.1, y4.1, y5.1, y6.1, y7.1, y8.1, y9.1] ∧ cs.length = P.cellsOf t ∧ DataW.trod enc P w base (fun _ => true) true n f0.type ((cs.drop f0.offset).take (P.cellsOf f0.type)) = some y0 ∧ DataW.trod enc P w base (fun _ => true) true n f1.type ((cs.drop f1.offset).take (P.cellsOf f1.type)) = some y1 ∧ DataW.trod enc P w base (fun _ => true) true n f2.type ((cs.drop f2.offset).take (P.cellsOf f2.type)) = some y2 ∧ DataW.trod enc P w base (fun _ => true) true n f3.type ((cs.drop f3.offset).take (P.cellsOf f3.type)) = some y3 ∧ DataW.trod enc P w base (fun _ => true) true n f4.type ((cs.drop f4.offset).take (P.cellsOf f4.type)) = some y4 ∧ DataW.trod enc P w base (fun _ => true) true n f5.type ((cs.drop f5.offset).take (P.cellsOf f5.type)) = some y5 ∧ DataW.trod enc P w base (fun _ => true) true n f6.type ((cs.drop f6.offset).take (P.cellsOf f6.type)) = some y6 ∧ DataW.trod enc P w base (fun _ => true) true n f7.type ((cs.drop f7.offset).take (P.cellsOf f7.type)) = some y7 ∧ DataW.trod enc P w base (fun _ => true) true n f8.type ((cs.drop f8.offset).take (P.cellsOf f8.type)) = some y8 ∧ DataW.trod enc P w base (fun _ => true) true n f9.type ((cs.drop f9.offset).take (P.cellsOf f9.type)) = some y9 := by
  obtain ⟨xs, n, _, rfl, hl, hlen, hf⟩ := DataW.trod_struct ht h
  match xs, hlen with
  | [y0, y1, y2, y3, y4, y5, y6, y7, y8, y9], _ => exact ⟨y0, y1, y2, y3, y4, y5, y6, y7, y8, y9, n, rfl, hl, by simpa using hf 0 f0 rfl, by simpa using hf 1 f1 rfl, by simpa using hf 2 f2 rfl, by simpa using hf 3 f3 rfl, by simpa using hf 4 f4 rfl, by simpa using hf 5 f5 rfl, by simpa using hf 6 f6 rfl, by simpa using hf 7 f7 rfl, by simpa using hf 8 f8 rfl, by simpa using hf 9 f9 rfl⟩
end
theorem cellsN37 : Tryz.prog.cellsOf 37 = 10 := by kernel_rfl
theorem cellsN54 : Tryz.prog.cellsOf 54 = 3 := by kernel_rfl
theorem cellsN34 : Tryz.prog.cellsOf 34 = 1 := by kernel_rfl
theorem cellsN35 : Tryz.prog.cellsOf 35 = 1 := by kernel_rfl
theorem cellsN9 : Tryz.prog.cellsOf 9 = 1 := by kernel_rfl
theorem cellsN3 : Tryz.prog.cellsOf 3 = 1 := by kernel_rfl
theorem cellsN2 : Tryz.prog.cellsOf 2 = 1 := by kernel_rfl
theorem cellsN4 : Tryz.prog.cellsOf 4 = 1 := by kernel_rfl
theorem bytesN54 : Tryz.prog.bytesOf 54 = 40 := by kernel_rfl
theorem bytesN9 : Tryz.prog.bytesOf 9 = 16 := by kernel_rfl
theorem bytesN37 : Tryz.prog.bytesOf 37 = 120 := by kernel_rfl
/-- What a node's lists are that came in. -/
structure NdIn (W : World) (q : Row) : Prop where
  rd : NdRd W q
  mc : q.2.1.1 = none → q.2.1.2.2 = 0
  nc : q.2.2.1 = none → q.2.2.2.2 = 0
  mb : q.1.mat.length * 40 ≤ reachBytes
  nb : q.1.names.length * 16 ≤ reachBytes
theorem NdIn.grown {w w' : World} {q : Row} (h : NdIn w q) (hg : w.grownBy w' none) : NdIn w' q := ⟨h.rd.grown hg, h.mc, h.nc, h.mb, h.nb⟩
section
variable {H : Type} {enc : TypeId × Value → H} {W : World}
instance : Inhabited Nd := ⟨⟨0, 0, ⟨#[]⟩, [], 0, 0, 0, [], false, 0⟩⟩
theorem step54 (fuel : Nat) (cs : List Value) (x : DataW H × List MemPlace) (h : DataW.trod enc Tryz.prog W 0 (fun _ => true) true fuel 54 cs = some x) : ∃ q : Mt, cs = matE.cells q ∧ ((∀ n ∈ x.1.weights Tryz.prog 54, n ≤ reachBytes) → True) := by
  obtain ⟨y0, y1, y2, n, rfl, hl, g0, g1, g2⟩ := Go.Deep.trod_struct3 Tryz.underlying54 h
  rw [cellsN54] at hl
  match cs, hl with
  | [c0, c1, c2], _ =>
    simp only [cellsN9, cellsN3, List.drop, List.take] at g0 g1 g2
    obtain ⟨s0, e0, rfl, _⟩ := DataW.trod_int Tryz.underlying3 g0
    obtain ⟨s1, e1, rfl, _⟩ := DataW.trod_string Tryz.underlying9 g1
    obtain ⟨s2, e2, rfl, _⟩ := DataW.trod_string Tryz.underlying9 g2
    simp only [List.cons.injEq, and_true] at e0 e1 e2
    subst e0; subst e1; subst e2
    exact ⟨(s0, s1, s2), rfl, fun _ => trivial⟩
theorem step9 (fuel : Nat) (cs : List Value) (x : DataW H × List MemPlace) (h : DataW.trod enc Tryz.prog W 0 (fun _ => true) true fuel 9 cs = some x) : ∃ q : ByteArray, cs = strE.cells q ∧ ((∀ n ∈ x.1.weights Tryz.prog 9, n ≤ reachBytes) → True) := by
  obtain ⟨s0, e0, rfl, _⟩ := DataW.trod_string Tryz.underlying9 h
  exact ⟨s0, e0, fun _ => trivial⟩
theorem step37 (fuel : Nat) (cs : List Value) (x : DataW H × List MemPlace) (h : DataW.trod enc Tryz.prog W 0 (fun _ => true) true fuel 37 cs = some x) : ∃ q : Row, cs = ndE.cells q ∧ ((∀ n ∈ x.1.weights Tryz.prog 37, n ≤ reachBytes) → NdIn W q) := by
  obtain ⟨y0, y1, y2, y3, y4, y5, y6, y7, y8, y9, n, hx, hl, g0, g1, g2, g3, g4, g5, g6, g7, g8, g9⟩ := trod_struct10 Tryz.underlying37 h
  rw [cellsN37] at hl
  match cs, hl with
  | [c0, c1, c2, c3, c4, c5, c6, c7, c8, c9], _ =>
    simp only [cellsN9, cellsN3, cellsN2, cellsN4, cellsN34, cellsN35, List.drop, List.take] at g0 g1 g2 g3 g4 g5 g6 g7 g8 g9
    obtain ⟨s0, e0, -, _⟩ := DataW.trod_int Tryz.underlying3 g0
    obtain ⟨s1, e1, -, _⟩ := DataW.trod_int Tryz.underlying3 g1
    obtain ⟨s2, e2, -, _⟩ := DataW.trod_string Tryz.underlying9 g2
    obtain ⟨ma, mn, mc, e3, hms⟩ := open_cells matE (S := fun _ => True) Tryz.underlying34 cellsN54 bytesN54 step54 g3
    obtain ⟨s4, e4, -, _⟩ := DataW.trod_int Tryz.underlying2 g4
    obtain ⟨s5, e5, -, _⟩ := DataW.trod_int Tryz.underlying2 g5
    obtain ⟨s6, e6, -, _⟩ := DataW.trod_int Tryz.underlying3 g6
    obtain ⟨na, nn, nc, e7, hns⟩ := open_cells strE (S := fun _ => True) Tryz.underlying35 cellsN9 bytesN9 step9 g7
    obtain ⟨s8, e8, -⟩ := DataW.trod_bool Tryz.underlying4 g8
    obtain ⟨s9, e9, -, _⟩ := DataW.trod_int Tryz.underlying3 g9
    simp only [List.cons.injEq, and_true] at e0 e1 e2 e3 e4 e5 e6 e7 e8 e9
    subst e0; subst e1; subst e2; subst e3; subst e4; subst e5; subst e6; subst e7; subst e8; subst e9
    by_cases hw : ∀ n ∈ x.1.weights Tryz.prog 37, n ≤ reachBytes
    · obtain ⟨ms, k1, k2, k3, k4, k5, -⟩ := hms (fun n hn => hw n (by
        rw [hx]
        simp only [DataW.weights, Tryz.underlying37]
        simp [DataW.weightsEach, hn]))
      obtain ⟨ns, l1, l2, l3, l4, l5, -⟩ := hns (fun n hn => hw n (by
        rw [hx]
        simp only [DataW.weights, Tryz.underlying37]
        simp [DataW.weightsEach, hn]))
      have k4' := k4
      have l4' := l4
      simp only [reachBytes] at k4' l4'
      subst k1; subst l1
      exact ⟨(⟨s0, s1, s2, ms, s4, s5, s6, ns, s8, s9⟩, (ma, ms.length, mc), (na, ns.length, nc)), rfl, fun _ => ⟨⟨k2, rfl, l2, rfl, by simp only; omega, by simp only; omega⟩, k3, l3, k4, l4⟩⟩
    · exact ⟨(⟨s0, s1, s2, [], s4, s5, s6, [], s8, s9⟩, (ma, mn, mc), (na, nn, nc)), rfl, fun h => absurd h hw⟩
/-- Nodes that came in. -/
structure NsIn (w : World) (a : Option Addr) (c : Nat) (Q : List Row) : Prop where
  rd : SRd ndE w a Q
  each : ∀ q ∈ Q, NdIn w q
  nil : a = none → c = 0
  le : Q.length * 120 ≤ reachBytes
theorem NsIn.grown {w w' : World} {a : Option Addr} {c : Nat} {Q : List Row} (h : NsIn w a c Q) (hg : w.grownBy w' none) : NsIn w' a c Q := ⟨h.rd.grown hg (by simp), fun q hq => (h.each q hq).grown hg, h.nil, h.le⟩
theorem open_nodes {a0 : Option Addr} {len0 cap0 : Nat} {d0 : DataW H} {p0 : List MemPlace} {ts : List TypeId} {ds : List (DataW H)} (h0 : DataW.Trod enc Tryz.prog W 0 (fun _ => true) true 22 (.slice a0 len0 cap0) d0 p0)
    (hsz : (DataW.weightsEach Tryz.prog ts ds).all (· ≤ reachBytes) = true) {j : Nat} (ht : ts[j]? = some 22) (hd : ds[j]? = some d0) : ∃ Q : List Row, len0 = Q.length ∧ NsIn W a0 cap0 Q := by
  obtain ⟨fuel, hf⟩ := h0
  obtain ⟨a1, l1, c1, e, hls⟩ := open_cells ndE (S := NdIn W) Tryz.underlying22 cellsN37 bytesN37 step37 hf
  simp [Value.cells] at e
  obtain ⟨rfl, rfl, rfl⟩ := e
  obtain ⟨Q, k1, k2, k3, k4, k5, k6⟩ := hls (fun n hn => by
    simpa using List.all_eq_true.1 hsz _ (DataW.weights_mem_each ht hd n hn))
  subst k1
  exact ⟨Q, rfl, k2, k6, k3, k4⟩
end
end Go.Proofs.YthbodkgcbfplgaaGreat
