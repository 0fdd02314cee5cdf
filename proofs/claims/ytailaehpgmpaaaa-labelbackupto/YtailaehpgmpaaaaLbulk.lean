/- The bulk of labels that come in. -/
import Derived.Test.YtailaehpgmpaaaaLopen
import Derived.Test.YtailaehpgmpaaaaBcap
import Derived.Test.YtailaehpgmpaaaaLback
namespace Go.Proofs.Ytailaehpgmpaaaa
open Go.ChangeShapes Go.WideShapes Go.ChangeAt Go.RowKit
set_option linter.unusedVariables false

theorem bulk_sum {H : Type} (f : Nat → DataW H) (g : Nat → Nat) (l : List Nat) (h : ∀ i ∈ l, g i ≤ Rows.uptoBulk (f i)) : (l.map g).sum ≤ Rows.uptoBulkAll (l.map f) := by
  induction l with
  | nil => simp
  | cons a l ih =>
    have h1 := h a (by simp)
    have h2 := ih (fun i hi => h i (by simp [hi]))
    simp only [List.map_cons, List.sum_cons, Rows.uptoBulkAll]
    omega
theorem open_bulk_labs {H : Type} {enc : TypeId × Value → H} {W : World} {a0 : Option Addr} {len0 cap0 : Nat} {d0 : DataW H} {p0 : List MemPlace} {ts : List TypeId} {ds : List (DataW H)}
    (h0 : DataW.Trod enc Try.prog W 0 (fun _ => true) true 22 (.slice a0 len0 cap0) d0 p0) (hsz : (DataW.weightsEach Try.prog ts ds).all (· ≤ reachBytes) = true) {j : Nat} (ht : ts[j]? = some 22) (hd : ds[j]? = some d0) :
    ∃ ls : List Lab, ls.length = len0 ∧ SRd labE W a0 ls ∧ (a0 = none → cap0 = 0) ∧ ls.length ≤ 4398046510976 ∧ len0 ≤ cap0 ∧ (ls.map (fun p => p.1.size + p.2.size + 3)).sum ≤ Rows.uptoBulk d0 := by
  obtain ⟨fuel, hf⟩ := h0
  rcases Go.Deep.open_slice_pairs Try.underlying22 Try.underlying52 cells52 rfl rfl cells9 cells9 hf with ⟨hcs, _⟩ | ⟨x, l, c, m, k, V0, V1, D0, D1, P0, P1, hcs, _, hl, hm, hmm, hx, hall⟩
  · simp [Value.cells] at hcs
    obtain ⟨rfl, rfl, rfl⟩ := hcs
    exact ⟨[], rfl, SRd.nil _ _, fun _ => rfl, by simp, Nat.le_refl _, by simp⟩
  · simp [Value.cells] at hcs
    obtain ⟨rfl, rfl, rfl⟩ := hcs
    simp only [if_true] at hmm
    simp only [Prod.mk.injEq] at hx
    obtain ⟨rfl, rfl⟩ := hx
    have hreach := sized_slice hsz ht hd Try.underlying22
    rw [bytes52] at hreach
    simp only [List.length_map, List.length_range, reachBytes] at hreach
    have hs : ∀ i, i < len0 → V0 i = .string (strv (V0 i)) ∧ V1 i = .string (strv (V1 i)) := by
      intro i hi
      obtain ⟨_, _, g0, g1⟩ := hall i (by omega)
      obtain ⟨s, e, _⟩ := DataW.trod_string Try.underlying9 g0
      obtain ⟨s', e', _⟩ := DataW.trod_string Try.underlying9 g1
      simp only [List.cons.injEq, and_true] at e e'
      rw [e, e']
      exact ⟨rfl, rfl⟩
    refine ⟨(List.range len0).map (fun i => (strv (V0 i), strv (V1 i))), by simp, ?_, by simp, by simp; omega, hl, ?_⟩
    rotate_left
    · have hb : ∀ i ∈ List.range len0, (strv (V0 i)).size + (strv (V1 i)).size + 3 ≤ Rows.uptoBulk (DataW.agg [D0 i, D1 i]) := by
        intro i hi
        have hi' := List.mem_range.1 hi
        obtain ⟨_, _, g0, g1⟩ := hall i (by omega)
        obtain ⟨s, e, q, _⟩ := DataW.trod_string Try.underlying9 g0
        obtain ⟨s', e', q', _⟩ := DataW.trod_string Try.underlying9 g1
        simp only [List.cons.injEq, and_true] at e e'
        simp only [Prod.mk.injEq] at q q'
        rw [e, e', q.1, q'.1]
        simp only [Rows.uptoBulk, Rows.uptoBulkAll, strv, Array.length_toList]
        show s.size + s'.size + 3 ≤ s.size + 1 + (s'.size + 1 + 0) + 1
        omega
      have h := bulk_sum (fun i => DataW.agg [D0 i, D1 i]) (fun i => (strv (V0 i)).size + (strv (V1 i)).size + 3) (List.range len0) hb
      rw [List.map_map]
      simp only [Rows.uptoBulk]
      refine Nat.le_trans ?_ (Nat.le_succ_of_le (Nat.le_add_right_of_le h))
      exact Nat.le_refl _
    by_cases h0 : len0 = 0
    · left; simp [h0]
    · right
      obtain ⟨b, off, spot⟩ := x
      have hspot : spot = none := by simpa [Addr.add] using World.cell?_spot (hall 0 (by omega)).1
      subst hspot
      refine ⟨b, off, rfl, fun q v hq => ?_⟩
      have hlen : q < len0 * 2 := by
        have h1 := (List.getElem?_eq_some_iff.1 hq).1
        rw [labE.flat_len, List.length_map, List.length_range] at h1
        exact h1
      have hi : q / 2 < len0 := by omega
      have hg := labE.flat_get ((List.range len0).map (fun i => (strv (V0 i), strv (V1 i)))) (q / 2) (strv (V0 (q / 2)), strv (V1 (q / 2))) (q % 2) (by simp [hi]) (Nat.mod_lt _ (by decide))
      rw [show q / 2 * labE.size + q % 2 = q from by show q / 2 * 2 + q % 2 = q; omega, hq] at hg
      obtain ⟨c0, c1, _⟩ := hall (q / 2) (by omega)
      rw [add_plain] at c0 c1
      obtain ⟨e0, e1⟩ := hs (q / 2) hi
      rcases Nat.mod_two_eq_zero_or_one q with hm2 | hm2
      · rw [hm2] at hg
        have hv : v = .string (strv (V0 (q / 2))) := by simpa [labE] using hg
        rw [hv, ← e0, show off + q = off + q / 2 * 2 by omega]
        exact c0
      · rw [hm2] at hg
        have hv : v = .string (strv (V1 (q / 2))) := by simpa [labE] using hg
        rw [hv, ← e1, show off + q = off + (q / 2 * 2 + 1) by omega]
        exact c1
theorem enc_bulk (ls : List Lab) (h : (ls.map (fun p => p.1.size + p.2.size + 3)).sum ≤ 1048576) : ls.length ≤ 1048576 ∧ (encR ls).length ≤ 30000000 ∧ (∀ p ∈ ls, p.2.size ≤ 1048576) ∧ (labText ls).size ≤ 30000000 := by
  have a1 : ∀ l : List Lab, l.length ≤ (l.map (fun p => p.1.size + p.2.size + 3)).sum := by
    intro l
    induction l with
    | nil => simp
    | cons p r ih => simp only [List.map_cons, List.sum_cons, List.length_cons]; omega
  have a2 : ∀ l : List Lab, (l.map (fun p => p.1.size + p.2.size + 3)).sum ≤ 1048576 → (l.flatMap encL).length ≤ 20 * (l.map (fun p => p.1.size + p.2.size + 3)).sum := by
    intro l
    induction l with
    | nil => intro _; simp
    | cons p r ih =>
      intro h
      simp only [List.map_cons, List.sum_cons] at h ⊢
      have h5 := ih (by omega)
      have e1 := enc_len p.1.size (by omega)
      have e2 := enc_len p.2.size (by omega)
      have : (encL p).length = (enc p.1.size).length + p.1.size + (enc p.2.size).length + p.2.size := by unfold encL; simp only [List.length_append, sInts_len]
      rw [List.flatMap_cons, List.length_append]
      omega
  have a3 : ∀ l : List Lab, ∀ p ∈ l, p.2.size ≤ (l.map (fun p => p.1.size + p.2.size + 3)).sum := by
    intro l
    induction l with
    | nil => intro p hp; simp at hp
    | cons q r ih =>
      intro p hp
      simp only [List.map_cons, List.sum_cons]
      rcases List.mem_cons.1 hp with rfl | hp
      · omega
      · have := ih p hp; omega
  have a4 : ∀ (l : List Lab) (f : Bool), (body f l).length ≤ 4 * (l.map (fun p => p.1.size + p.2.size + 3)).sum := by
    intro l
    induction l with
    | nil => intro f; simp [body]
    | cons p r ih =>
      intro f
      have h5 := ih false
      have e1 := sInts_len p.1
      have e2 := flat_q1_len (sInts p.2)
      rw [sInts_len] at e2
      rw [body]
      simp only [List.map_cons, List.sum_cons]
      cases f <;> simp only [if_true, if_false, Bool.false_eq_true, List.length_append, List.length_cons, List.length_nil] <;> omega
  have b1 := a1 ls
  have b2 := a2 ls h
  have b4 := a4 ls true
  have b5 := enc_len ls.length (by omega)
  refine ⟨by omega, ?_, fun p hp => Nat.le_trans (a3 ls p hp) h, ?_⟩
  · unfold encR
    rw [List.length_append]
    omega
  · rw [← sInts_len, text_ints, List.length_cons, List.length_append, List.length_cons, List.length_nil]
    omega
end Go.Proofs.Ytailaehpgmpaaaa
