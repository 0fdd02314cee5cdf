/- The document's own Check. -/
import Derived.Test.YtailaehpgmpaaabRchar
import Derived.Test.YtailaehpgmpaaabRwith
namespace Go.Proofs.Ytailaehpgmpaaab
open Go.RowKit
set_option linter.unusedVariables false

def sortB : Option ByteArray → ByteArray → Bool
  | none, _ => false
  | some q, n => leB n q
def chk : Option ByteArray → List Lab → Int
  | _, [] => 0
  | prev, p :: r => if nameR p.1 = false then 31 else if validR p.2 = false then 32 else if sortB prev p.1 = true then 33 else chk (some p.1) r
def checkR (ls : List Lab) : Int := if 16 < ls.length then 30 else chk none ls
def prevOf (ls : List Lab) (k : Nat) : Option ByteArray := if k = 0 then none else (ls[k - 1]?).map (·.1)
def ChkAt (ls : List Lab) (k : Nat) (R : Int) : Prop := chk (prevOf ls k) (ls.drop k) = R
theorem ChkAt.next {ls : List Lab} {k : Nat} {R : Int} {p : Lab} (h : ChkAt ls k R) (hp : ls[k]? = some p) : (if nameR p.1 = false then 31 else if validR p.2 = false then 32 else if sortB (prevOf ls k) p.1 = true then 33 else chk (some p.1) (ls.drop (k + 1))) = R := by
  unfold ChkAt at h
  obtain ⟨h1, h2⟩ := List.getElem?_eq_some_iff.1 hp
  rw [List.drop_eq_getElem_cons h1, h2, chk] at h
  exact h
theorem prevOf_next {ls : List Lab} {k : Nat} {p : Lab} (hp : ls[k]? = some p) : prevOf ls (k + 1) = some p.1 := by
  unfold prevOf
  rw [if_neg (by omega), Nat.add_sub_cancel, hp]
  rfl

end Go.Proofs.Ytailaehpgmpaaab
