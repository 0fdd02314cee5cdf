/- Points at one distance with one value. -/
import Derived.Test.YtacpibidkfbojaaDoorMh
namespace Go.Proofs.YtacpibidkfbojaaDoor
set_option linter.unusedVariables false

def evens (t d v : Int) : Nat → List Pt
  | 0 => []
  | n + 1 => (t + d, v) :: evens (t + d) d v n
theorem xorI_self (v : Int) : xorI v v = 0 := by unfold xorI; simp
theorem encV_zero (a b : Int) : encV a b 0 = ([false], a, b) := by unfold encV; rw [if_pos rfl]
theorem encL_even (v : Int) : ∀ (n : Nat) (t d a b : Int), (encL t v d a b (evens t d v n)).length = 2 * n
  | 0, t, d, a, b => rfl
  | n + 1, t, d, a, b => by
    rw [show evens t d v (n + 1) = (t + d, v) :: evens (t + d) d v n from rfl, encL, xorI_self, encV_zero]
    have e2 : t + d - t = d := by omega
    have e : encZ (t + d - t - d) = [false] := by rw [e2, Int.sub_self]; rfl
    show (encZ (t + d - t - d) ++ ([false] ++ encL (t + d) v (t + d - t) a b (evens (t + d) d v n))).length = _
    rw [e, e2, List.length_append, List.length_append, encL_even v n (t + d) d a b]
    simp only [List.length_singleton]
    omega
theorem encP_even (t d v : Int) (n : Nat) : (encP ((t, v) :: evens t d v (n + 1))).length = (encP ((t, v) :: evens t d v 1)).length + 2 * n := by
  have h : ∀ m, (encP ((t, v) :: evens t d v (m + 1))).length = 13 + (64 + (64 + ((encZ d).length + (1 + 2 * m)))) := by
    intro m
    rw [show evens t d v (m + 1) = (t + d, v) :: evens (t + d) d v m from rfl, encP, encL, xorI_self, encV_zero]
    have e2 : t + d - t = d := by omega
    have e : t + d - t - 0 = d := by omega
    show (bitsI 13 _ ++ (bitsI 64 t ++ (bitsI 64 v ++ (encZ (t + d - t - 0) ++ ([false] ++ encL (t + d) v (t + d - t) (-1) 0 (evens (t + d) d v m)))))).length = _
    rw [e, e2]
    simp only [List.length_append, List.length_singleton, bitsI_len]
    rw [encL_even v m (t + d) d (-1) 0]
  rw [h n, h 0]
  omega
theorem evens_range (t d v : Int) : ∀ n : Nat, (List.range (n + 1)).map (fun i : Nat => ((t + (i : Int) * d, v) : Pt)) = (t, v) :: evens t d v n := by
  intro n
  induction n generalizing t with
  | zero => simp [evens]
  | succ n ih =>
    rw [List.range_succ_eq_map, List.map_cons, List.map_map]
    have e : ((fun i : Nat => ((t + (i : Int) * d, v) : Pt)) ∘ Nat.succ) = fun i : Nat => ((t + d + (i : Int) * d, v) : Pt) := by
      funext i
      simp only [Function.comp, Nat.succ_eq_add_one, Int.natCast_add, Int.add_mul]
      congr 1
      omega
    rw [e, ih (t + d)]
    simp [evens]
theorem okTs_even {v d : Int} (hd : 1 ≤ d) (hd2 : d ≤ 10000) : ∀ (n : Nat) (t : Int), -1099511627776 ≤ t → t + 10000 * n ≤ 1099511627776 → okTs t (evens t d v n) = true
  | 0, t, _, _ => rfl
  | n + 1, t, h1, h2 => by
    rw [show evens t d v (n + 1) = (t + d, v) :: evens (t + d) d v n from rfl, okTs]
    rw [okTs_even hd hd2 n (t + d) (by omega) (by omega)]
    simp
    omega
theorem okTimes_even {v d t : Int} (hd : 1 ≤ d) (hd2 : d ≤ 10000) (n : Nat) (h1 : -1099511627776 ≤ t) (h2 : t + 10000 * n ≤ 1099511627776) : okTimes ((t, v) :: evens t d v n) = true := by
  show ((decide (-1099511627776 ≤ t) && decide (t ≤ 1099511627776)) && okTs t (evens t d v n)) = true
  rw [okTs_even hd hd2 n t h1 h2]
  simp
  omega
end Go.Proofs.YtacpibidkfbojaaDoor
