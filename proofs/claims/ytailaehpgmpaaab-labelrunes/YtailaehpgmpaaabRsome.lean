/- The document's own calls of layer 3: Get, in, Some, With. -/
import Derived.Test.YtailaehpgmpaaabRlab
namespace Go.Proofs.Ytailaehpgmpaaab
open Go.RowKit
set_option linter.unusedVariables false

theorem ret_str {a b : ByteArray} (h : a = b) : Ending.returned (.string a) = .returned (.string b) := by rw [h]
def getR : List Lab → ByteArray → ByteArray
  | [], _ => ⟨#[]⟩
  | p :: r, n => if p.1 = n then p.2 else getR r n
def GetAt (ls : List Lab) (n : ByteArray) (k : Nat) (R : ByteArray) : Prop := getR (ls.drop k) n = R
theorem GetAt.next {ls : List Lab} {n R : ByteArray} {k : Nat} {p : Lab} (h : GetAt ls n k R) (hp : ls[k]? = some p) : (if p.1 = n then p.2 else getR (ls.drop (k + 1)) n) = R := by
  unfold GetAt at h
  obtain ⟨h1, h2⟩ := List.getElem?_eq_some_iff.1 hp
  rw [List.drop_eq_getElem_cons h1, h2, getR] at h
  exact h

def inB (ss : List ByteArray) (s : ByteArray) : Bool := ss.any (fun t => decide (t = s))
def InAt (ss : List ByteArray) (s : ByteArray) (k : Nat) (R : Bool) : Prop := inB (ss.drop k) s = R
def someR (ls : List Lab) (ss : List ByteArray) (keep : Bool) : List Lab := ls.filter (fun p => inB ss p.1 == keep)
theorem someR_next {ls : List Lab} {ss : List ByteArray} {keep : Bool} {k : Nat} {p : Lab} (hp : ls[k]? = some p) : someR (ls.take (k + 1)) ss keep = someR (ls.take k) ss keep ++ (if inB ss p.1 == keep then [p] else []) := by
  unfold someR
  rw [List.take_add_one, hp, List.filter_append]
  simp only [Option.toList_some, List.filter_cons, List.filter_nil]
theorem someR_len (ls : List Lab) (ss : List ByteArray) (keep : Bool) : (someR ls ss keep).length ≤ ls.length := List.length_filter_le _ _

end Go.Proofs.Ytailaehpgmpaaab
