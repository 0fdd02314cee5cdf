/- What HeadSelects rests on: maths. -/
import Derived.Test.YtpabbmiibehfjaaGreatDoorIu
namespace Go.Proofs.YtpabbmiibehfjaaGreatDoor
open Go.RowKit Go.Maps
set_option linter.unusedVariables false
set_option maxRecDepth 20000

/-- The points of those series whose labels are ls. -/
def pickP (ls : List Lab) (L : List Ser) : List Pt := L.flatMap fun s => if s.1 = ls then s.2 else []
theorem pick_next {ls : List Lab} {L : List Ser} {k : Nat} {s : Ser} (h : L[k]? = some s) : pickP ls (L.take (k + 1)) = pickP ls (L.take k) ++ (if s.1 = ls then s.2 else []) := by
  unfold pickP
  rw [List.take_add_one, h, List.flatMap_append]
  simp
theorem sel_cons (say : List Lab → Bool) (f t : Int) (s : Ser) (S : List Ser) : selS say f t (s :: S) = (if say s.1 = true ∧ s.2.filter (within f t) ≠ [] then [(s.1, s.2.filter (within f t))] else []) ++ selS say f t S := by
  have h := selS_snoc say f t [] s
  rw [List.nil_append] at h
  have e : selS say f t (s :: S) = selS say f t [s] ++ selS say f t S := by
    unfold selS
    rw [← keepS_app, ← List.filter_append]
    rfl
  rw [e, h]
  rfl
theorem pick_none (say : List Lab → Bool) (f t : Int) (ls : List Lab) : ∀ (S : List Ser), ls ∉ S.map (·.1) → pickP ls (selS say f t S) = []
  | [], _ => rfl
  | s :: r, h => by
    rw [List.map_cons, List.mem_cons, not_or] at h
    rw [sel_cons]
    unfold pickP
    rw [List.flatMap_append]
    have h2 := pick_none say f t ls r h.2
    unfold pickP at h2
    rw [h2, List.append_nil]
    split
    · simp only [List.flatMap_cons, List.flatMap_nil, List.append_nil]
      rw [if_neg (fun e => h.1 e.symm)]
    · rfl
theorem pick_sel (say : List Lab → Bool) (f t : Int) (s : Ser) (hs : say s.1 = true) : ∀ (S : List Ser), (S.map (·.1)).Nodup → s ∈ S → pickP s.1 (selS say f t S) = s.2.filter (within f t)
  | [], _, h => by simp at h
  | x :: r, hn, h => by
    rw [List.map_cons, List.nodup_cons] at hn
    rw [sel_cons]
    unfold pickP
    rw [List.flatMap_append]
    rcases List.mem_cons.1 h with rfl | h
    · have h2 := pick_none say f t s.1 r hn.1
      unfold pickP at h2
      rw [h2, List.append_nil]
      by_cases he : s.2.filter (within f t) = []
      · rw [if_neg (fun h => h.2 he), he]
        rfl
      · rw [if_pos ⟨hs, he⟩]
        simp only [List.flatMap_cons, List.flatMap_nil, List.append_nil, if_true]
    · have h2 := pick_sel say f t s hs r hn.2 h
      unfold pickP at h2
      rw [h2]
      have hne : x.1 ≠ s.1 := fun e => hn.1 (e ▸ List.mem_map.2 ⟨s, h, rfl⟩)
      split
      · simp only [List.flatMap_cons, List.flatMap_nil, List.append_nil]
        rw [if_neg hne, List.nil_append]
      · rfl
theorem filt_two (A B C : Pt → Bool) (m : Int) (hA : ∀ p, A p = true → p.1 ≤ m) (hB : ∀ p, B p = true → m < p.1) (hC : ∀ p, C p = (A p || B p)) : ∀ (ps : List Pt), ps.Pairwise (fun p q => p.1 < q.1) → ps.filter A ++ ps.filter B = ps.filter C
  | [], _ => rfl
  | p :: r, h => by
    have h1 := List.pairwise_cons.1 h
    have ih := filt_two A B C m hA hB hC r h1.2
    cases ha : A p with
    | true =>
      have hb : B p = false := by
        cases hb : B p with
        | false => rfl
        | true => have := hA p ha; have := hB p hb; omega
      rw [List.filter_cons_of_pos (by simp [ha]), List.filter_cons_of_neg (by simp [hb]), List.filter_cons_of_pos (by simp [hC, ha]), List.cons_append, ih]
    | false =>
      cases hb : B p with
      | false => rw [List.filter_cons_of_neg (by simp [ha]), List.filter_cons_of_neg (by simp [hb]), List.filter_cons_of_neg (by simp [hC, ha, hb]), ih]
      | true =>
        have hr : r.filter A = [] := by
          rw [List.filter_eq_nil_iff]
          intro q hq e
          have := hA q e
          have := hB p hb
          have := h1.1 q hq
          omega
        rw [hr, List.nil_append] at ih
        rw [List.filter_cons_of_neg (by simp [ha]), hr, List.nil_append, List.filter_cons_of_pos (by simp [hb]), List.filter_cons_of_pos (by simp [hC, hb]), ih]
theorem rise_split {ps : List Pt} (h : Rise ps) {f m t : Int} (h1 : f ≤ m) (h2 : m ≤ t) : ps.filter (within f m) ++ ps.filter (within (m + 1) t) = ps.filter (within f t) := by
  refine filt_two _ _ _ m (fun p hp => ?_) (fun p hp => ?_) (fun p => ?_) ps h.up
  · simp only [within, Bool.and_eq_true, decide_eq_true_eq] at hp
    exact hp.2
  · simp only [within, Bool.and_eq_true, decide_eq_true_eq] at hp
    omega
  · rw [Bool.eq_iff_iff]
    simp only [within, Bool.and_eq_true, Bool.or_eq_true, decide_eq_true_eq]
    omega
/-- The two halves of a series make it whole. -/
theorem halves {S : List Ser} (hg : Good S) (say : List Lab → Bool) {f m t : Int} (h1 : f ≤ m) (h2 : m ≤ t) {s : Ser} (hs : s ∈ selS say f t S) : pickP s.1 (selS say f m S) ++ pickP s.1 (selS say (m + 1) t S) = s.2 := by
  unfold selS at hs
  obtain ⟨x, hx, _, rfl⟩ := keepS_mem.1 hs
  obtain ⟨hx1, hx2⟩ := List.mem_filter.1 hx
  have hn := sets_nodup hg.sets
  rw [pick_sel say f m x hx2 S hn hx1, pick_sel say (m + 1) t x hx2 S hn hx1]
  exact rise_split (hg.rise x hx1) h1 h2
theorem pts_halves {S : List Ser} (hg : Good S) (say : List Lab → Bool) {f m t : Int} (h1 : f ≤ m) (h2 : m ≤ t) : ptsN (selS say f m S) + ptsN (selS say (m + 1) t S) = ptsN (selS say f t S) := by
  unfold selS
  rw [pts_keep, pts_keep, pts_keep]
  have hr : ∀ s ∈ S.filter (fun s => say s.1), Rise s.2 := fun s hs => hg.rise s (List.mem_filter.1 hs).1
  generalize S.filter (fun s => say s.1) = T at hr
  induction T with
  | nil => rfl
  | cons s r ih =>
    have ih' := ih (fun s hs => hr s (List.mem_cons_of_mem _ hs))
    have hl := congrArg List.length (rise_split (hr s (List.mem_cons_self ..)) h1 h2)
    rw [List.length_append] at hl
    simp only [List.map_cons, List.sum_cons]
    omega
end Go.Proofs.YtpabbmiibehfjaaGreatDoor
