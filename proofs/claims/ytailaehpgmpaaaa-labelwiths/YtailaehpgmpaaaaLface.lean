/- The calls of package label, as the statements use them: each of them is proved of the program's own code. -/
import Derived.Test.YtailaehpgmpaaaaEtext
import Derived.Test.YtailaehpgmpaaaaEcmp
import Derived.Test.YtailaehpgmpaaaaEwith
namespace Go.Proofs.Ytailaehpgmpaaaa
open Go.RowKit
set_option linter.unusedVariables false

theorem f_labtext (a : Option Addr) (ls : List Lab) (L c : Nat) (R : ByteArray) (w : World) (hx : SRd labE w a ls) (hL : ls.length = L) (hz : L ≤ 4398046511104) (hq : ∀ p ∈ ls, p.2.size ≤ 70368744177000) (hB : (labText ls).size ≤ 140737488355000) (hR : labText ls = R) :
    Calls Try.prog 13 #[.slice a L c] w fun e w' => e = .returned (.string R) ∧ w.grownBy w' none := g_labtext a ls L c R w hx hL hz hB hR
end Go.Proofs.Ytailaehpgmpaaaa
