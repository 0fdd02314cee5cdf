/- The document's own calls of layer 3: order, Compare, Get, in, Some. -/
import Derived.Test.YtailaehpgmpaaabTxts
namespace Go.Proofs.Ytailaehpgmpaaab
open Go.RowKit
set_option linter.unusedVariables false

def bless (a b : ByteArray) : Bool := Op.bytesLess a.toList b.toList
def ordR (a b : ByteArray) : Int := if bless a b then -1 else if a = b then 0 else 1
theorem ordR_bd (a b : ByteArray) : -1 ≤ ordR a b ∧ ordR a b ≤ 1 := by unfold ordR; split <;> (try split) <;> omega
def cmpR : List Lab → List Lab → Int
  | [], [] => 0
  | [], _ :: _ => -1
  | _ :: _, [] => 1
  | x :: xs, y :: ys => if ordR x.1 y.1 ≠ 0 then ordR x.1 y.1 else if ordR x.2 y.2 ≠ 0 then ordR x.2 y.2 else cmpR xs ys
def CmpAt (xs ys : List Lab) (k : Nat) (R : Int) : Prop := cmpR (xs.drop k) (ys.drop k) = R
theorem CmpAt.next {xs ys : List Lab} {k : Nat} {R : Int} {x y : Lab} (h : CmpAt xs ys k R) (hx : xs[k]? = some x) (hy : ys[k]? = some y) : (if ordR x.1 y.1 ≠ 0 then ordR x.1 y.1 else if ordR x.2 y.2 ≠ 0 then ordR x.2 y.2 else cmpR (xs.drop (k + 1)) (ys.drop (k + 1))) = R := by
  unfold CmpAt at h
  obtain ⟨hx1, hx2⟩ := List.getElem?_eq_some_iff.1 hx
  obtain ⟨hy1, hy2⟩ := List.getElem?_eq_some_iff.1 hy
  rw [List.drop_eq_getElem_cons hx1, List.drop_eq_getElem_cons hy1, hx2, hy2, cmpR] at h
  exact h
theorem CmpAt.done {xs ys : List Lab} {k : Nat} {R : Int} (h : CmpAt xs ys k R) (hk : k ≤ xs.length) (hk2 : k ≤ ys.length) (he : ¬ (k < xs.length ∧ k < ys.length)) : (if xs.length < ys.length then -1 else if ys.length < xs.length then 1 else 0) = R := by
  unfold CmpAt at h
  rw [← h]
  by_cases h1 : k < xs.length
  · have h2 : ys.drop k = [] := List.drop_eq_nil_of_le (by omega)
    rw [List.drop_eq_getElem_cons h1, h2, cmpR, if_neg (by omega), if_pos (by omega)]
  · have h2 : xs.drop k = [] := List.drop_eq_nil_of_le (by omega)
    by_cases h3 : k < ys.length
    · rw [List.drop_eq_getElem_cons h3, h2, cmpR, if_pos (by omega)]
    · have h4 : ys.drop k = [] := List.drop_eq_nil_of_le (by omega)
      rw [h2, h4, cmpR, if_neg (by omega), if_neg (by omega)]

theorem gbW {w wr : World} (h : ∃ m, wr = w.drewN m) (n : Nat) : w.grownBy (wr.drewN n) none := by
  obtain ⟨m, rfl⟩ := h
  exact (gb_drewN w m).trans (gb_drewN _ n)

end Go.Proofs.Ytailaehpgmpaaab
