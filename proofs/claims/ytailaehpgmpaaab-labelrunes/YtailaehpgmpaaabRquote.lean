/- The document's own Quote. -/
import Derived.Test.YtailaehpgmpaaabRenc
namespace Go.Proofs.Ytailaehpgmpaaab
open Go.RowKit
set_option linter.unusedVariables false

def q1 (c : Int) : List Int := if c = 34 ∨ c = 92 then [92, c] else if c = 10 then [92, 110] else [c]
def quoteL (zs : List Int) : List Int := [34] ++ zs.flatMap q1 ++ [34]
def quoteR (s : ByteArray) : ByteArray := strOfNums (quoteL (sInts s))
def QAt (s : ByteArray) (k : Nat) (zk : List Int) : Prop := zk = [34] ++ ((sInts s).take k).flatMap q1
theorem q1_len (c : Int) : (q1 c).length ≤ 2 := by unfold q1; split <;> (try split) <;> simp
theorem flat_q1_len (l : List Int) : (l.flatMap q1).length ≤ 2 * l.length := by
  induction l with
  | nil => simp
  | cons a l ih => rw [List.flatMap_cons, List.length_append, List.length_cons]; have := q1_len a; omega
theorem QAt.next {s : ByteArray} {k : Nat} {zk : List Int} (h : QAt s k zk) (hk : k < s.size) : QAt s (k + 1) (zk ++ q1 (byteAt s k)) := by
  unfold QAt at h ⊢
  have hl : k < (sInts s).length := by rw [sInts_len]; exact hk
  rw [h, List.take_add_one, List.getElem?_eq_getElem hl]
  have : byteAt s k = (sInts s)[k] := by
    unfold byteAt
    rw [List.getD_eq_getElem?_getD, List.getElem?_eq_getElem hl]
    rfl
  rw [this, List.flatMap_append]
  simp only [Option.toList_some, List.flatMap_cons, List.flatMap_nil, List.append_nil, List.append_assoc]
theorem QAt.len {s : ByteArray} {k : Nat} {zk : List Int} (h : QAt s k zk) : zk.length ≤ 2 * s.size + 1 := by
  unfold QAt at h
  rw [h, List.length_append]
  have h1 := flat_q1_len ((sInts s).take k)
  rw [List.length_take, sInts_len] at h1
  simp only [List.length_cons, List.length_nil]
  omega

end Go.Proofs.Ytailaehpgmpaaab
