/- The document's own Encode, Hash. -/
import Derived.Test.YtailaehpgmpaaabRcheck
import Derived.Test.YtailaehpgmpaaabDraw
namespace Go.Proofs.Ytailaehpgmpaaab
open Go.RowKit
set_option linter.unusedVariables false

def fnv1 (h z : Int) : Int := bits .xor .u32 h z * 16777619 % 4294967296
def fnvR (zs : List Int) : Int := zs.foldl fnv1 2166136261
def FnvAt (zs : List Int) (k : Nat) (h R : Int) : Prop := (zs.drop k).foldl fnv1 h = R
def encL (p : Lab) : List Int := enc p.1.size ++ sInts p.1 ++ enc p.2.size ++ sInts p.2
def encR (ls : List Lab) : List Int := enc ls.length ++ ls.flatMap encL
def EncAt (ls : List Lab) (k : Nat) (zk : List Int) : Prop := zk = enc ls.length ++ (ls.take k).flatMap encL
theorem EncAt.next {ls : List Lab} {k : Nat} {zk : List Int} {p : Lab} (h : EncAt ls k zk) (hp : ls[k]? = some p) : EncAt ls (k + 1) (zk ++ enc p.1.size ++ sInts p.1 ++ enc p.2.size ++ sInts p.2) := by
  unfold EncAt at h ⊢
  rw [h, List.take_add_one, hp]
  simp [encL]
theorem EncAt.le {ls : List Lab} {k : Nat} {zk : List Int} (h : EncAt ls k zk) : zk.length ≤ (encR ls).length := by
  unfold EncAt at h
  have e : encR ls = enc ls.length ++ ((ls.take k).flatMap encL ++ (ls.drop k).flatMap encL) := by
    unfold encR
    rw [← List.flatMap_append, List.take_append_drop]
  rw [h, e]
  simp only [List.length_append]
  omega

end Go.Proofs.Ytailaehpgmpaaab
