/- Several texts in one: Tc. -/
import Derived.Test.YtaljjemickonaaaGreatMr
/- Rings: what one member more does to the replicas, as maths. -/
namespace Go.Proofs.YtaljjemickonaaaGreat
open Go.RowKit Go.Sort
set_option linter.unusedVariables false
set_option maxRecDepth 20000

theorem pwR_ext {α : Type} {r : α → α → Prop} (asym : ∀ x y, r x y → ¬ r y x) : ∀ l m : List α, l.Pairwise r → m.Pairwise r → (∀ x, x ∈ l ↔ x ∈ m) → l = m
  | [], [], _, _, _ => rfl
  | [], y :: m, _, _, h => by have := (h y).2 (List.mem_cons_self ..); simp at this
  | x :: l, [], _, _, h => by have := (h x).1 (List.mem_cons_self ..); simp at this
  | x :: l, y :: m, hl, hm, h => by
    rw [List.pairwise_cons] at hl hm
    have hxy : x = y := by
      have h1 := (h x).1 (List.mem_cons_self ..)
      have h2 := (h y).2 (List.mem_cons_self ..)
      rcases List.mem_cons.1 h1 with e | h1
      · exact e
      · rcases List.mem_cons.1 h2 with e | h2
        · exact e.symm
        · exact absurd (hm.1 x h1) (asym _ _ (hl.1 y h2))
    subst hxy
    have ht : l = m := pwR_ext asym l m hl.2 hm.2 (fun z => by
      constructor
      · intro hz
        rcases List.mem_cons.1 ((h z).1 (List.mem_cons_of_mem _ hz)) with rfl | h1
        · exact absurd (hl.1 z hz) (asym _ _ (hl.1 z hz))
        · exact h1
      · intro hz
        rcases List.mem_cons.1 ((h z).2 (List.mem_cons_of_mem _ hz)) with rfl | h1
        · exact absurd (hm.1 z hz) (asym _ _ (hm.1 z hz))
        · exact h1)
    rw [ht]
def lexP (p q : Pl) : Prop := p.1 < q.1 ∨ p.1 = q.1 ∧ p.2 < q.2
theorem lexP_asym (p q : Pl) (h : lexP p q) : ¬ lexP q p := by unfold lexP at *; omega
theorem memOk_rise {ms : List Mem} (ho : ringOk ms = true) {m : Mem} (hm : m ∈ ms) : m.2.2.Pairwise (· < ·) := by
  obtain ⟨i, hi⟩ := List.getElem?_of_mem hm
  have := ((ringOk_iff ms).1 ho).1 i m hi
  unfold memOk at this
  simp only [Bool.and_eq_true] at this
  exact (riseW_pw _).1 this.2
/-- Places of a ring are unlike each other. -/
theorem plc_nodup {ms : List Mem} (ho : ringOk ms = true) : (plc ms).Nodup := by
  unfold plc List.Nodup
  rw [List.pairwise_flatMap]
  constructor
  · intro m hm
    unfold plcM
    split
    · have hr := (memOk_rise ho hm)
      rw [List.pairwise_map]
      exact hr.imp (fun {a b} h e => by simp at e; omega)
    · exact List.Pairwise.nil
  · have hr : (ms.map (·.1)).Pairwise (· < ·) := ringOk_rise ho
    rw [List.pairwise_map] at hr
    refine hr.imp (fun {a b} h x hx y hy e => ?_)
    subst e
    unfold plcM at hx hy
    split at hx
    · split at hy
      · obtain ⟨t, _, rfl⟩ := List.mem_map.1 hx
        obtain ⟨t', _, e⟩ := List.mem_map.1 hy
        simp at e; omega
      · simp at hy
    · simp at hx
theorem sortP_strict {ms : List Mem} (ho : ringOk ms = true) : (sortP (plc ms)).Pairwise lexP := by
  have hs := sortP_sorted (plc ms)
  have hn : (sortP (plc ms)).Pairwise (· ≠ ·) := (sortP_perm (plc ms)).nodup_iff.2 (plc_nodup ho)
  unfold SortedP at hs
  refine (hs.and hn).imp (fun {p q} h => ?_)
  have h1 := (ltP_false q p).1 h.1
  have h2 := h.2
  unfold lexP
  rcases p with ⟨a, b⟩
  rcases q with ⟨c, d⟩
  simp only [ne_eq, Prod.mk.injEq] at h2 h1 ⊢
  omega
theorem part_take {α : Type} (r : α → α → Prop) (p : α → Bool) (hm : ∀ x y, r x y → p y = true → p x = true) : ∀ l : List α, l.Pairwise r → l.take (l.countP p) = l.filter p ∧ l.drop (l.countP p) = l.filter (fun x => !p x)
  | [], _ => by simp
  | x :: l, h => by
    rw [List.pairwise_cons] at h
    obtain ⟨h1, h2⟩ := part_take r p hm l h.2
    cases hx : p x with
    | true => simp [hx, h1, h2]
    | false =>
      have h0 : ∀ y ∈ l, p y = false := fun y hy => by
        cases e : p y with
        | false => rfl
        | true => rw [hm x y (h.1 y hy) e] at hx; cases hx
      have hc : l.countP p = 0 := by rw [List.countP_eq_zero]; intro y hy; simp [h0 y hy]
      have hf : l.filter p = [] := by rw [List.filter_eq_nil_iff]; intro y hy; simp [h0 y hy]
      have hg : l.filter (fun x => !p x) = l := by rw [List.filter_eq_self]; intro y hy; simp [h0 y hy]
      simp [hx, hc, hf, hg]
def bel (h : Int) (p : Pl) : Bool := decide (cmpP p (h, 0) < 0)
theorem rot_eq {ms : List Mem} (ho : ringOk ms = true) (h : Int) : rotP ms h = (sortP (plc ms)).filter (fun p => !bel h p) ++ (sortP (plc ms)).filter (bel h) := by
  obtain ⟨h1, h2⟩ := part_take lexP (bel h) (fun x y hr hy => by
    unfold bel at *
    simp only [decide_eq_true_eq, cmpP_neg] at *
    unfold lexP at hr
    omega) (sortP (plc ms)) (sortP_strict ho)
  unfold rotP
  show _ ++ _ = _
  rw [← h1, ← h2]
  rfl
theorem metF_filter (q : Int → Bool) : ∀ (l acc : List Int), (l.filter q).foldl metS (acc.filter q) = (l.foldl metS acc).filter q
  | [], acc => rfl
  | x :: l, acc => by
    rw [List.foldl_cons, ← metF_filter q l (metS acc x)]
    cases hx : q x with
    | true =>
      rw [List.filter_cons_of_pos hx, List.foldl_cons]
      congr 1
      unfold metS
      have hc : (acc.filter q).contains x = acc.contains x := by
        rw [Bool.eq_iff_iff]
        simp [List.mem_filter, hx]
      rw [hc]
      split
      · rfl
      · rw [List.filter_append, List.filter_cons_of_pos hx]; rfl
    | false =>
      rw [List.filter_cons_of_neg (by simp [hx])]
      congr 1
      unfold metS
      split
      · rfl
      · rw [List.filter_append, List.filter_cons_of_neg (by simp [hx])]; simp
theorem plc_with (ms : List Mem) (id s : Int) : plc (withM ms id s) = plc (ms.take (posI ms id)) ++ plcM (id, s, tokL id) ++ plc (ms.drop (posI ms id)) := by
  unfold plc withM
  simp [List.flatMap_append]
theorem plc_parts (ms : List Mem) (id : Int) : plc ms = plc (ms.take (posI ms id)) ++ plc (ms.drop (posI ms id)) := by
  conv => lhs; rw [← List.take_append_drop (posI ms id) ms]
  unfold plc
  rw [List.flatMap_append]
theorem repM_idle (ms : List Mem) (id s h : Int) (hs : s ≠ 2) : repM (withM ms id s) h = repM ms h := by
  have e : plc (withM ms id s) = plc ms := by
    rw [plc_with, plc_parts ms id]
    unfold plcM
    rw [if_neg hs, List.append_nil]
  unfold repM rotP
  rw [e]
theorem plc_ids {ms : List Mem} {p : Pl} (h : p ∈ plc ms) : ∃ m ∈ ms, m.1 = p.2 := by
  unfold plc at h
  obtain ⟨m, hm, hp⟩ := List.mem_flatMap.1 h
  unfold plcM at hp
  split at hp
  · obtain ⟨t, _, rfl⟩ := List.mem_map.1 hp
    exact ⟨m, hm, rfl⟩
  · simp at hp
theorem id_out {ms : List Mem} {id : Int} (ho : ringOk ms = true) (hh : hasI ms id = false) : ∀ m ∈ ms, m.1 ≠ id := by
  intro m hm e
  subst e
  obtain ⟨i, hi⟩ := List.getElem?_of_mem hm
  have hr := ringOk_rise ho
  have hp : posI ms m.1 = i := by
    unfold posI
    refine countP_place _ ms i (by have := (List.getElem?_eq_some_iff.1 hi).1; omega) (fun j a ha => ?_)
    simp only [decide_eq_true_eq]
    rcases Nat.lt_trichotomy j i with h | h | h
    · have := hr.lt h ha hi; omega
    · subst h; rw [hi] at ha; cases ha; omega
    · have := hr.lt h hi ha; omega
  unfold hasI at hh
  rw [hp, hi] at hh
  simp at hh
theorem repM_more {ms : List Mem} {id : Int} (ho : ringOk ms = true) (hi : idOk id = true) (hh : hasI ms id = false) (h : Int) : (repM (withM ms id 2) h).filter (fun x => decide (x ≠ id)) = repM ms h := by
  have l2 := life ms id 2 ho hi hh rfl
  have hno := id_out ho hh
  have hf : (sortP (plc (withM ms id 2))).filter (fun p => decide (p.2 ≠ id)) = sortP (plc ms) := by
    refine pwR_ext lexP_asym _ _ ((sortP_strict l2.ok).filter _) (sortP_strict ho) (fun p => ?_)
    rw [List.mem_filter, (sortP_perm _).mem_iff, (sortP_perm _).mem_iff, plc_with, plc_parts ms id]
    simp only [List.mem_append, decide_eq_true_eq]
    constructor
    · rintro ⟨(h1 | h1) | h1, h2⟩
      · exact .inl h1
      · unfold plcM at h1
        rw [if_pos rfl] at h1
        obtain ⟨t, _, rfl⟩ := List.mem_map.1 h1
        exact absurd rfl h2
      · exact .inr h1
    · rintro (h1 | h1)
      · obtain ⟨m, hm, e⟩ := plc_ids h1
        exact ⟨.inl (.inl h1), by rw [← e]; exact hno m (List.mem_of_mem_take hm)⟩
      · obtain ⟨m, hm, e⟩ := plc_ids h1
        exact ⟨.inr h1, by rw [← e]; exact hno m (List.mem_of_mem_drop hm)⟩
  have hr : (rotP (withM ms id 2) h).filter (fun p => decide (p.2 ≠ id)) = rotP ms h := by
    rw [rot_eq l2.ok, rot_eq ho, List.filter_append, ← hf]
    rw [List.filter_filter, List.filter_filter, List.filter_filter, List.filter_filter]
    congr 1 <;> (apply List.filter_congr; intro p _; rw [Bool.and_comm])
  unfold repM metL
  have := metF_filter (fun x => decide (x ≠ id)) (idsP (rotP (withM ms id 2) h)) []
  rw [← this]
  rw [← hr]
  unfold idsP
  rw [List.filter_map]
  rfl
theorem less_one {l : List Int} (hn : l.Nodup) (id : Int) : l.length ≤ (l.filter (fun x => decide (x ≠ id))).length + 1 := by
  induction l with
  | nil => simp
  | cons x l ih =>
    rw [List.nodup_cons] at hn
    by_cases hx : x = id
    · subst hx
      have : l.filter (fun y => decide (y ≠ x)) = l := by
        rw [List.filter_eq_self]
        intro y hy
        simp only [decide_eq_true_eq]
        rintro rfl
        exact hn.1 hy
      rw [List.filter_cons_of_neg (by simp), this]
      simp
    · have := ih hn.2
      rw [List.filter_cons_of_pos (by simpa using hx)]
      simp only [List.length_cons]
      omega
/-- The others among the first k. -/
theorem turn_others {ms : List Mem} {id : Int} (ho : ringOk ms = true) (hi : idOk id = true) (hh : hasI ms id = false) (h : Int) (k : Nat) (hk : k ≤ (repM ms h).length) :
    k ≤ (repM (withM ms id 2) h).length ∧ k ≤ (((repM (withM ms id 2) h).take k).filter (fun x => decide (x ≠ id))).length + 1 ∧ (((repM (withM ms id 2) h).take k).filter (fun x => decide (x ≠ id))).length ≤ k ∧ (((repM (withM ms id 2) h).take k).filter (fun x => decide (x ≠ id))) = (repM ms h).take (((repM (withM ms id 2) h).take k).filter (fun x => decide (x ≠ id))).length := by
  have hm := repM_more ho hi hh h
  have hl : k ≤ (repM (withM ms id 2) h).length := by
    have := List.length_filter_le (fun x => decide (x ≠ id)) (repM (withM ms id 2) h)
    rw [hm] at this; omega
  have ht : ((repM (withM ms id 2) h).take k).length = k := by rw [List.length_take]; omega
  have hnd : ((repM (withM ms id 2) h).take k).Nodup := (repM_nodup _ _).sublist (List.take_sublist _ _)
  have h1 := less_one hnd id
  rw [ht] at h1
  have h2 := List.length_filter_le (fun x => decide (x ≠ id)) ((repM (withM ms id 2) h).take k)
  rw [ht] at h2
  refine ⟨hl, h1, h2, ?_⟩
  have hp : ((repM (withM ms id 2) h).take k).filter (fun x => decide (x ≠ id)) <+: repM ms h := by
    rw [← hm]
    exact (List.take_prefix _ _).filter _
  exact (List.prefix_iff_eq_take.1 hp)
end Go.Proofs.YtaljjemickonaaaGreat

