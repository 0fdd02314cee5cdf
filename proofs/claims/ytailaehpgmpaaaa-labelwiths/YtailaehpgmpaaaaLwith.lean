/- Sets that may be: their order, with a label more, and their parts. -/
import Derived.Test.YtailaehpgmpaaaaKlab
import Derived.Test.YtailaehpgmpaaaaLmath
namespace Go.Proofs.Ytailaehpgmpaaaa
open Go.RowKit
set_option linter.unusedVariables false

theorem leB_ord (a b : ByteArray) : leB a b = true ↔ ordR a b ≤ 0 := by
  unfold leB ordR bless
  rw [Bool.or_eq_true, str_eq, decide_eq_true_eq]
  constructor
  · intro h
    rcases h with h | h
    · rw [if_pos h]; omega
    · subst h
      split <;> simp
  · intro h
    split at h
    · left; assumption
    · split at h
      · right; assumption
      · omega
theorem leB_not (a b : ByteArray) : leB a b = false ↔ ordR b a < 0 := by
  have h := leB_ord a b
  have h2 := ord_ordR.anti a b
  rw [Bool.eq_false_iff, Ne, h]
  omega
def Lt (a b : Lab) : Prop := leB b.1 a.1 = false
def okL (p : Lab) : Prop := nameR p.1 = true ∧ validR p.2 = true
theorem lt_trans {a b c : ByteArray} (h1 : leB b a = false) (h2 : leB c b = false) : leB c a = false := by
  rw [leB_not] at h1 h2 ⊢
  exact (ord_ordR.all a b c).2.1 h1 (by omega)
theorem lt_ne {a b : ByteArray} (h : leB b a = false) : a ≠ b := by
  intro e
  subst e
  rw [leB_not] at h
  have := (ord_ordR.zero a a).2 rfl
  omega
theorem chk_cons (prev : Option ByteArray) (p : Lab) (r : List Lab) : chk prev (p :: r) = 0 ↔ okL p ∧ sortB prev p.1 = false ∧ chk (some p.1) r = 0 := by
  rw [chk]
  unfold okL
  cases nameR p.1 <;> cases validR p.2 <;> cases sortB prev p.1 <;> simp
theorem chk_iff : ∀ (ls : List Lab) (prev : Option ByteArray), chk prev ls = 0 ↔ (∀ p ∈ ls, okL p) ∧ ls.Pairwise Lt ∧ ∀ p ∈ ls, sortB prev p.1 = false := by
  intro ls
  induction ls with
  | nil => intro prev; simp [chk]
  | cons p r ih =>
    intro prev
    rw [chk_cons, ih, List.pairwise_cons]
    constructor
    · rintro ⟨h1, h2, h3, h4, h5⟩
      refine ⟨?_, ⟨fun q hq => h5 q hq, h4⟩, ?_⟩
      · intro q hq
        rcases List.mem_cons.1 hq with rfl | hq
        · exact h1
        · exact h3 q hq
      · intro q hq
        rcases List.mem_cons.1 hq with rfl | hq
        · exact h2
        · cases prev with
          | none => rfl
          | some a => exact lt_trans (a := a) (b := p.1) (c := q.1) h2 (h5 q hq)
    · rintro ⟨h1, ⟨h2, h3⟩, h4⟩
      exact ⟨h1 p (by simp), h4 p (by simp), fun q hq => h1 q (by simp [hq]), h3, fun q hq => h2 q hq⟩
theorem chk_none (ls : List Lab) : chk none ls = 0 ↔ (∀ p ∈ ls, okL p) ∧ ls.Pairwise Lt := by
  rw [chk_iff]
  simp [sortB]
theorem check_iff (ls : List Lab) : checkR ls = 0 ↔ ls.length ≤ 16 ∧ (∀ p ∈ ls, okL p) ∧ ls.Pairwise Lt := by
  unfold checkR
  split
  · simp; omega
  · rw [chk_none]
    constructor
    · intro h; exact ⟨by omega, h⟩
    · intro h; exact h.2
theorem value_ne {v : ByteArray} (h : validR v = true) : v ≠ ⟨#[]⟩ := by
  intro e
  subst e
  revert h
  decide

theorem inB_one (n s : ByteArray) : inB [n] s = decide (n = s) := by simp [inB]
theorem get_filter (g : ByteArray → Bool) (ls : List Lab) (n : ByteArray) : getR (ls.filter (fun p => g p.1)) n = if g n = true then getR ls n else ⟨#[]⟩ := by
  induction ls with
  | nil => simp [getR]
  | cons p r ih =>
    rw [List.filter_cons]
    by_cases hg : g p.1 = true
    · rw [if_pos hg, getR, getR, ih]
      by_cases e : p.1 = n
      · rw [if_pos e, if_pos e, if_pos (by rw [← e]; exact hg)]
      · rw [if_neg e, if_neg e]
    · rw [if_neg hg, getR, ih]
      by_cases e : p.1 = n
      · rw [if_neg (by rw [← e]; exact hg), if_neg (by rw [← e]; exact hg)]
      · rw [if_neg e]
theorem get_at {ls : List Lab} (h : ls.Pairwise Lt) : ∀ {p : Lab}, p ∈ ls → getR ls p.1 = p.2 := by
  induction ls with
  | nil => intro p hp; simp at hp
  | cons q r ih =>
    intro p hp
    rw [List.pairwise_cons] at h
    rw [getR]
    rcases List.mem_cons.1 hp with rfl | hp
    · rw [if_pos rfl]
    · rw [if_neg (lt_ne (h.1 p hp)), ih h.2 hp]
theorem parts_get {ls : List Lab} (hc : checkR ls = 0) (ss : List ByteArray) {i : Nat} {p : Lab} (hp : ls[i]? = some p) :
    (((getR (someR ls ss true) p.1).toList == p.2.toList) == ((getR (someR ls ss false) p.1).toList == p.2.toList)) = false := by
  obtain ⟨_, h1, h2⟩ := (check_iff ls).1 hc
  have hm := List.mem_of_getElem? hp
  have hv := value_ne (h1 p hm).2
  have hg := get_at h2 hm
  have e : ∀ b : Bool, getR (someR ls ss b) p.1 = if (inB ss p.1 == b) = true then p.2 else ⟨#[]⟩ := fun b => by
    unfold someR
    rw [get_filter (fun s => inB ss s == b), hg]
  have hne : ((⟨#[]⟩ : ByteArray).toList == p.2.toList) = false := by rw [str_eq]; simpa using fun e => hv e.symm
  rw [e true, e false]
  have q : (p.2.toList == p.2.toList) = true := by simp
  cases inB ss p.1
  · rw [if_neg (by decide), if_pos (by decide), hne, q]; rfl
  · rw [if_pos (by decide), if_neg (by decide), hne, q]; rfl
theorem parts_len (ls : List Lab) (ss : List ByteArray) : (someR ls ss true).length + (someR ls ss false).length = ls.length := by
  unfold someR
  induction ls with
  | nil => rfl
  | cons p r ih =>
    rw [List.filter_cons, List.filter_cons]
    cases inB ss p.1 <;> simp at ih ⊢ <;> omega
theorem with_none (ls : List Lab) (name : ByteArray) : withR ls name ⟨#[]⟩ = someR ls [name] false := by
  unfold withR
  rw [if_pos rfl]

theorem drop_gt {ls : List Lab} (h : ls.Pairwise Lt) (n : ByteArray) : ∀ q ∈ ls.dropWhile (fun p => leB p.1 n), leB q.1 n = false := by
  induction ls with
  | nil => intro q hq; simp at hq
  | cons p r ih =>
    rw [List.pairwise_cons] at h
    intro q hq
    rw [List.dropWhile_cons] at hq
    split at hq
    · exact ih h.2 q hq
    · rename_i hb
      have hb' : leB p.1 n = false := by simpa using hb
      rcases List.mem_cons.1 hq with rfl | hq
      · exact hb'
      · exact lt_trans hb' (h.1 q hq)
theorem get_skip : ∀ (xs ys : List Lab) (n : ByteArray), (∀ p ∈ xs, p.1 ≠ n) → getR (xs ++ ys) n = getR ys n := by
  intro xs
  induction xs with
  | nil => intro ys n _; rfl
  | cons p r ih =>
    intro ys n h
    rw [List.cons_append, getR, if_neg (h p (by simp)), ih ys n (fun q hq => h q (by simp [hq]))]
theorem rest_ne {ls : List Lab} {name : ByteArray} : ∀ p ∈ someR ls [name] false, p.1 ≠ name := by
  intro p hp e
  unfold someR at hp
  have := (List.mem_filter.1 hp).2
  rw [inB_one] at this
  simp [e] at this
theorem with_good {ls : List Lab} {name value : ByteArray} (hc : checkR ls = 0) (ho : checkR [(name, value)] = 0) :
    (∀ _ : (withR ls name value).length ≤ 16, checkR (withR ls name value) = 0) ∧ getR (withR ls name value) name = value ∧ someR (withR ls name value) [name] false = someR ls [name] false := by
  obtain ⟨_, h1, h2⟩ := (check_iff ls).1 hc
  have hok : okL (name, value) := ((check_iff _).1 ho).2.1 _ (by simp)
  have hv := value_ne hok.2
  have hr2 : (someR ls [name] false).Pairwise Lt := h2.sublist List.filter_sublist
  have hr1 : ∀ p ∈ someR ls [name] false, okL p := fun p hp => h1 p (List.mem_filter.1 hp).1
  have hne := rest_ne (ls := ls) (name := name)
  have hX : withR ls name value = (someR ls [name] false).takeWhile (fun p => leB p.1 name) ++ [(name, value)] ++ (someR ls [name] false).dropWhile (fun p => leB p.1 name) := by
    unfold withR
    rw [if_neg hv]
  rw [hX]
  generalize hr : someR ls [name] false = rest at *
  have hsplit := List.takeWhile_append_dropWhile (p := fun p : Lab => leB p.1 name) (l := rest)
  have hdg := drop_gt hr2 name
  have htl : ∀ p ∈ rest.takeWhile (fun p => leB p.1 name), leB p.1 name = true := fun p hp => by
    have h := List.all_takeWhile (p := fun p : Lab => leB p.1 name) (l := rest)
    exact List.all_eq_true.1 h p hp
  generalize rest.takeWhile (fun p => leB p.1 name) = tw at *
  generalize rest.dropWhile (fun p => leB p.1 name) = dw at *
  subst hsplit
  rw [List.pairwise_append] at hr2
  obtain ⟨p1, p2, p3⟩ := hr2
  have htn : ∀ p ∈ tw, leB name p.1 = false := fun p hp => by
    have a := htl p hp
    have b := hne p (by simp [hp])
    rw [leB_ord] at a
    rw [leB_not]
    have := (ord_ordR.zero p.1 name)
    by_cases e : ordR p.1 name = 0
    · exact absurd (this.1 e) b
    · omega
  refine ⟨fun hl => (check_iff _).2 ⟨hl, ?_, ?_⟩, ?_, ?_⟩
  · intro p hp
    simp only [List.mem_append, List.mem_cons, List.not_mem_nil, or_false] at hp
    rcases hp with (hp | rfl) | hp
    · exact hr1 p (by simp [hp])
    · exact hok
    · exact hr1 p (by simp [hp])
  · rw [List.append_assoc, List.pairwise_append]
    refine ⟨p1, ?_, ?_⟩
    · rw [List.singleton_append, List.pairwise_cons]
      exact ⟨fun q hq => hdg q hq, p2⟩
    · intro a ha b hb
      rw [List.singleton_append] at hb
      rcases List.mem_cons.1 hb with rfl | hb
      · exact htn a ha
      · exact p3 a ha b hb
  · rw [List.append_assoc, get_skip _ _ _ (fun p hp => hne p (by simp [hp])), List.singleton_append, getR, if_pos rfl]
  · unfold someR
    rw [List.filter_append, List.filter_append]
    have hk : ∀ l : List Lab, (∀ p ∈ l, p.1 ≠ name) → l.filter (fun p => inB [name] p.1 == false) = l := fun l h => by
      rw [List.filter_eq_self]
      intro p hp
      have := h p hp
      rw [inB_one, decide_eq_false (fun e => this e.symm)]
      rfl
    rw [hk tw (fun p hp => hne p (by simp [hp])), hk dw (fun p hp => hne p (by simp [hp]))]
    have : [(name, value)].filter (fun p => inB [name] p.1 == false) = [] := by simp [inB_one]
    rw [this, List.append_nil]
theorem withR_len (ls : List Lab) (name value : ByteArray) : (withR ls name value).length ≤ ls.length + 1 := by
  have h := someR_len ls [name] false
  unfold withR
  split
  · omega
  · have h2 : ((someR ls [name] false).takeWhile (fun p => leB p.1 name)).length + ((someR ls [name] false).dropWhile (fun p => leB p.1 name)).length = (someR ls [name] false).length := by
      rw [← List.length_append, List.takeWhile_append_dropWhile]
    simp only [List.length_append, List.length_cons, List.length_nil]
    omega
end Go.Proofs.Ytailaehpgmpaaaa
