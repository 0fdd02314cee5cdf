/- The places of a pattern that can be reached. -/
import Derived.Test.YtpabbmiibehfjaaGreatDoorMtGmath
namespace Go.Proofs.YtpabbmiibehfjaaGreatDoor.Mt

def starAt (P : List Int) (i : Nat) : Bool := decide (P[i]? = some 42)
/-- Place i of P is reached by the first k bytes of S: what stands ahead of it, and a star there, is what they are. -/
def Rch (P S : List Int) (k i : Nat) : Bool := glob (P.take (i + (if starAt P i then 1 else 0))) (S.take k)
theorem take_star {P : List Int} {i : Nat} (h : starAt P i = true) : P.take (i + 1) = P.take i ++ [42] := by
  unfold starAt at h
  simp only [decide_eq_true_eq] at h
  rw [List.take_add_one, h]; rfl
theorem take_at {P : List Int} {i : Nat} {c : Int} (h : P[i]? = some c) : P.take (i + 1) = P.take i ++ [c] := by rw [List.take_add_one, h]; rfl
theorem rch_zero (P S : List Int) : Rch P S 0 0 = true := by
  unfold Rch
  rw [List.take_zero]
  cases h : starAt P 0 with
  | true => rw [if_pos rfl, take_star h, List.take_zero]; exact glob_all []
  | false => rw [if_neg (by simp), Nat.add_zero, List.take_zero, glob_nil]; rfl
/-- A star at place i or none: on no bytes it is one. -/
theorem rch_none (P S : List Int) (i : Nat) : Rch P S 0 i = glob (P.take i) [] := by
  unfold Rch
  rw [List.take_zero]
  cases h : starAt P i with
  | true => rw [if_pos rfl, take_star h, glob_last_star_nil]
  | false => rw [if_neg (by simp)]; rfl
theorem rch_close (P S : List Int) (i : Nat) (hi : i < P.length) : Rch P S 0 (i + 1) = (Rch P S 0 i && starAt P i) := by
  rw [rch_none, rch_none]
  obtain ⟨c, hc⟩ : ∃ c, P[i]? = some c := ⟨_, List.getElem?_eq_getElem hi⟩
  rw [take_at hc]
  by_cases h : c = 42
  · subst h
    rw [glob_last_star_nil, show starAt P i = true by unfold starAt; simpa using hc, Bool.and_true]
  · rw [glob_last_nil h, show starAt P i = false by unfold starAt; rw [hc]; simpa using h, Bool.and_false]
theorem rch_more (P S : List Int) (k i : Nat) (d : Int) (hd : S[k]? = some d) : Rch P S (k + 1) i = ((starAt P i && Rch P S k i) || glob (P.take i) (S.take k ++ [d])) := by
  unfold Rch
  rw [take_at hd]
  cases h : starAt P i with
  | true =>
    rw [if_pos rfl, take_star h, glob_last_star, Bool.true_and, Bool.or_comm]
  | false => rw [if_neg (by simp), Bool.false_and, Bool.false_or]; rfl
theorem rch_first (P S : List Int) (k : Nat) (d : Int) (hd : S[k]? = some d) : Rch P S (k + 1) 0 = (starAt P 0 && Rch P S k 0) := by
  rw [rch_more P S k 0 d hd, List.take_zero, glob_nil]
  cases S.take k <;> simp
theorem rch_step (P S : List Int) (k i : Nat) (c d : Int) (hc : P[i]? = some c) (hd : S[k]? = some d) : Rch P S (k + 1) (i + 1) = ((starAt P (i + 1) && Rch P S k (i + 1)) || (if c = 42 then Rch P S (k + 1) i else decide (c = d) && Rch P S k i)) := by
  rw [rch_more P S k (i + 1) d hd, take_at hc]
  congr 1
  by_cases h : c = 42
  · rw [if_pos h]
    subst h
    have hs : starAt P i = true := by unfold starAt; simpa using hc
    unfold Rch
    rw [if_pos hs, take_star hs, take_at hd]
  · rw [if_neg h, glob_last h]
    have hs : starAt P i = false := by unfold starAt; rw [hc]; simpa using h
    unfold Rch
    rw [hs]
    rfl
theorem rch_end (P S : List Int) (k : Nat) : Rch P S k P.length = glob P (S.take k) := by
  unfold Rch starAt
  rw [List.getElem?_eq_none (Nat.le_refl _)]
  simp
/-- What is marked on the way: stars that stay, bytes that go on. -/
def Mark (P S : List Int) (k : Nat) (d : Int) (i j : Nat) : Bool :=
  (decide (j < i) && (starAt P j && Rch P S k j)) || (decide (j ≤ i) && match j with | 0 => false | t + 1 => decide (P[t]? = some d) && (!starAt P t && Rch P S k t))
theorem mark_zero (P S : List Int) (k : Nat) (d : Int) (j : Nat) : Mark P S k d 0 j = false := by
  unfold Mark
  cases j <;> simp
theorem mark_next (P S : List Int) (k : Nat) (d c : Int) (i j : Nat) (hc : P[i]? = some c) :
    Mark P S k d (i + 1) j = if j = i then (Mark P S k d i j || (Rch P S k i && decide (c = 42))) else if j = i + 1 then (Mark P S k d i j || (Rch P S k i && (!decide (c = 42) && decide (c = d)))) else Mark P S k d i j := by
  have hs : starAt P i = decide (c = 42) := by unfold starAt; rw [hc]; simp
  by_cases h1 : j = i
  · subst h1
    rw [if_pos rfl]
    unfold Mark
    rw [hs]
    simp only [Nat.lt_irrefl, decide_false, Bool.false_and, Bool.false_or, Nat.le_refl, decide_true, Bool.true_and, Nat.lt_succ_self, Nat.le_succ]
    rw [Bool.or_comm, Bool.and_comm (decide (c = 42))]
  · rw [if_neg h1]
    by_cases h2 : j = i + 1
    · subst h2
      rw [if_pos rfl]
      unfold Mark
      have e1 : ¬ (i + 1 < i + 1) := by omega
      have e2 : ¬ (i + 1 < i) := by omega
      have e3 : ¬ (i + 1 ≤ i) := by omega
      simp only [e1, e2, e3, decide_false, Bool.false_and, Bool.false_or, Nat.le_refl, decide_true, Bool.true_and]
      rw [hc, hs]
      cases Rch P S k i <;> cases h3 : decide (c = 42) <;> simp [eq_comm]
    · rw [if_neg h2]
      unfold Mark
      have e1 : (j < i + 1) ↔ j < i := by omega
      have e2 : (j ≤ i + 1) ↔ j ≤ i := by omega
      simp only [e1, e2]
theorem mark_zero_at (P S : List Int) (k : Nat) (d : Int) (hd : S[k]? = some d) : Mark P S k d P.length 0 = Rch P S (k + 1) 0 := by
  rw [rch_first P S k d hd]
  unfold Mark
  by_cases h : 0 < P.length
  · simp [h]
  · have : P = [] := List.eq_nil_of_length_eq_zero (by omega)
    subst this
    simp [starAt]
theorem mark_close (P S : List Int) (k i : Nat) (c d : Int) (hc : P[i]? = some c) (hd : S[k]? = some d) : (Mark P S k d P.length (i + 1) || (Rch P S (k + 1) i && decide (c = 42))) = Rch P S (k + 1) (i + 1) := by
  rw [rch_step P S k i c d hc hd]
  have hi := (List.getElem?_eq_some_iff.1 hc).1
  have hs : starAt P i = decide (c = 42) := by unfold starAt; rw [hc]; simp
  unfold Mark
  simp only [hc, hs]
  have e1 : i + 1 ≤ P.length := by omega
  have e2 : (decide (i + 1 < P.length) && (starAt P (i + 1) && Rch P S k (i + 1))) = (starAt P (i + 1) && Rch P S k (i + 1)) := by
    by_cases h : i + 1 < P.length
    · simp [h]
    · have : starAt P (i + 1) = false := by unfold starAt; rw [List.getElem?_eq_none (by omega)]; rfl
      simp [this]
  rw [e2]
  simp only [e1, decide_true, Bool.true_and]
  by_cases h : c = 42
  · simp [h]
  · simp [h]
end Go.Proofs.YtpabbmiibehfjaaGreatDoor.Mt
