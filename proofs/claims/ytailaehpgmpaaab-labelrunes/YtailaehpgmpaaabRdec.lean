/- The document's own Decode. -/
import Derived.Test.YtailaehpgmpaaabRtext
import Derived.Test.YtailaehpgmpaaabCback
namespace Go.Proofs.Ytailaehpgmpaaab
open Go.RowKit
set_option linter.unusedVariables false

def decL (zs : List Int) : Nat → Int → List Lab → List Lab × Int × Int
  | 0, p, acc => (acc, p, 0)
  | m + 1, p, acc =>
    if (textR zs p).2.2 ≠ 0 then ([], 0, (textR zs p).2.2)
    else if (textR zs (textR zs p).2.1).2.2 ≠ 0 then ([], 0, (textR zs (textR zs p).2.1).2.2)
    else decL zs m (textR zs (textR zs p).2.1).2.1 (acc ++ [((textR zs p).1, (textR zs (textR zs p).2.1).1)])
def shut (x : List Lab × Int × Int) : List Lab × Int × Int := if x.2.2 ≠ 0 then ([], 0, x.2.2) else if checkR x.1 ≠ 0 then ([], 0, checkR x.1) else (x.1, x.2.1, 0)
def decodeR (zs : List Int) (p : Int) : List Lab × Int × Int :=
  if (uintR zs p).2.2 ≠ 0 then ([], 0, (uintR zs p).2.2)
  else if 16 < (uintR zs p).1 then ([], 0, 34)
  else shut (decL zs (uintR zs p).1.toNat (uintR zs p).2.1 [])

/-- A list of labels in new memory, or none. -/
def LOut (w w' : World) (v : Option Addr) (n c : Nat) (ls : List Lab) : Prop := SOwn labE 27 w' w.heap.size (.slice v n c) n ls
theorem LOut.nil (w w' : World) : LOut w w' none 0 0 [] := SOwn.nil 27 w' w.heap.size

end Go.Proofs.Ytailaehpgmpaaab
