/- Slices of structs that come in, opened, with what the bound of the arguments says of each element. -/
import Derived.Test.YtbncglhgllialaaDoorSlot
import Derived.Deep.Slices
namespace Go.Proofs.YtbncglhgllialaaDoor
open Go.ChangeShapes Go.WideShapes Go.ChangeAt Go.RowKit
set_option linter.unusedVariables false

theorem weights_all {H : Type} {P : Program} {e : TypeId} : ∀ {l : List (DataW H)} {d : DataW H}, d ∈ l → ∀ n ∈ d.weights P e, n ∈ DataW.weightsAll P e l
  | x :: r, d, h, n, hn => by
    simp only [DataW.weightsAll, List.mem_append]
    rcases List.mem_cons.1 h with rfl | h
    · exact Or.inl hn
    · exact Or.inr (weights_all h n hn)

theorem srd_range {α : Type} (E : Elem α) {w : World} {b off : Nat} (q : Nat → α) (n : Nat) (h : ∀ i, i < n → ∀ j v, (E.cells (q i))[j]? = some v → w.cell? ⟨b, off + (i * E.size + j), none⟩ = some v) :
    SRd E w (some ⟨b, off, none⟩) ((List.range n).map q) := by
  right
  refine ⟨b, off, rfl, fun p v hp => ?_⟩
  have hlen := (List.getElem?_eq_some_iff.1 hp).1
  rw [E.flat_len, List.length_map, List.length_range] at hlen
  have hpos := E.pos
  have hi : p / E.size < n := (Nat.div_lt_iff_lt_mul hpos).2 hlen
  have hj : p % E.size < E.size := Nat.mod_lt _ hpos
  have hg := E.flat_get ((List.range n).map q) (p / E.size) (q (p / E.size)) (p % E.size) (by simp [hi]) hj
  have hsum : p / E.size * E.size + p % E.size = p := by rw [Nat.mul_comm]; exact Nat.div_add_mod p E.size
  rw [hsum, hp] at hg
  have := h _ hi _ v hg.symm
  rwa [hsum] at this

theorem open_structs {α : Type} [Inhabited α] (E : Elem α) {P : Program} {t e : TypeId} {bytes : Nat} {S : α → Prop} {H : Type} {enc : TypeId × Value → H} {W : World}
    (ht : P.underlying t = some (.slice e)) (hc : P.cellsOf e = E.size) (hby : P.bytesOf e = bytes)
    (step : ∀ fuel cs x, DataW.trod enc P W 0 (fun _ => true) true fuel e cs = some x → ∃ q : α, cs = E.cells q ∧ ((∀ n ∈ x.1.weights P e, n ≤ reachBytes) → S q))
    {a0 : Option Addr} {len0 cap0 : Nat} {d0 : DataW H} {p0 : List MemPlace} {ts : List TypeId} {ds : List (DataW H)}
    (h0 : DataW.Trod enc P W 0 (fun _ => true) true t (.slice a0 len0 cap0) d0 p0) (hsz : (DataW.weightsEach P ts ds).all (· ≤ reachBytes) = true) {j : Nat} (hj : ts[j]? = some t) (hd : ds[j]? = some d0) :
    ∃ ls : List α, ls.length = len0 ∧ SRd E W a0 ls ∧ (a0 = none → cap0 = 0) ∧ ls.length * bytes ≤ reachBytes ∧ len0 ≤ cap0 ∧ ∀ q ∈ ls, S q := by
  obtain ⟨fuel, hf⟩ := h0
  rcases Go.Deep.open_slice ht hf with ⟨hcs, _⟩ | ⟨x, l, c, m, k, D, Pl, hcs, _, hl, hm, hmm, hx, hall⟩
  · simp [Value.cells] at hcs
    obtain ⟨rfl, rfl, rfl⟩ := hcs
    exact ⟨[], rfl, SRd.nil _ _, fun _ => rfl, by simp, Nat.le_refl _, by simp⟩
  · simp [Value.cells] at hcs
    obtain ⟨rfl, rfl, rfl⟩ := hcs
    simp only [if_true] at hmm
    simp only [Prod.mk.injEq] at hx
    obtain ⟨rfl, rfl⟩ := hx
    have hreach := sized_slice hsz hj hd ht
    rw [hby] at hreach
    simp only [List.length_map, List.length_range] at hreach
    have each : ∀ i, i < len0 → ∃ q : α, W.cells? 0 (x.add (i * E.size)) E.size = some (E.cells q) ∧ S q := by
      intro i hi
      obtain ⟨cs', h1, h2⟩ := hall i (by omega)
      obtain ⟨q, e1, hS⟩ := step _ _ _ h2
      rw [hc] at h1
      refine ⟨q, by rw [h1, e1], hS fun n hn => ?_⟩
      have hmem : n ∈ DataW.weightsEach P ts ds := DataW.weights_mem_each hj hd n (by
        simp only [DataW.weights, ht]
        refine List.mem_cons_of_mem _ (List.mem_append_left _ (weights_all (d := D i) ?_ n hn))
        exact List.mem_map.2 ⟨i, List.mem_range.2 hi, rfl⟩)
      simpa using List.all_eq_true.1 hsz _ hmem
    obtain ⟨q, hq⟩ := Go.Deep.choose_lt each
    refine ⟨(List.range len0).map q, by simp, ?_, by simp, ?_, hl, ?_⟩
    · by_cases h0 : len0 = 0
      · left; simp [h0]
      · obtain ⟨b, off, spot⟩ := x
        have hspot : spot = none := by
          obtain ⟨_, _, hcell⟩ := World.cells?_some (hq 0 (by omega)).1
          have := hcell 0 (by exact E.pos)
          rw [List.getElem?_eq_getElem (by rw [E.len]; exact E.pos)] at this
          simpa [Addr.add] using World.cell?_spot this
        subst hspot
        refine srd_range E q len0 fun i hi j v hv => ?_
        obtain ⟨_, hlen, hcell⟩ := World.cells?_some (hq i hi).1
        have hj := (List.getElem?_eq_some_iff.1 hv).1
        rw [E.len] at hj
        have := hcell j hj
        rw [Go.Deep.add_add, add_plain] at this
        rw [this, hv]
    · rw [List.length_map, List.length_range]
      exact Nat.le_trans (Nat.mul_le_mul_right _ (by omega)) hreach
    · intro y hy
      obtain ⟨i, hi, rfl⟩ := List.mem_map.1 hy
      exact (hq i (List.mem_range.1 hi)).2
end Go.Proofs.YtbncglhgllialaaDoor
