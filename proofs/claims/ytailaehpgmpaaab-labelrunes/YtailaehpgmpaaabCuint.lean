/- The document's own Uint. -/
import Derived.Test.YtailaehpgmpaaabCref
import Derived.Test.YtailaehpgmpaaabCumath
namespace Go.Proofs.Ytailaehpgmpaaab
open Go.RowKit

theorem ret3 {a a' b b' c c' : Int} {ka kb kc : IntKind} (h : a = a') (h1 : b = b') (h2 : c = c') : Ending.returned (.tuple #[.int ka a, .int kb b, .int kc c]) = .returned (.tuple #[.int ka a', .int kb b', .int kc c']) := by rw [h, h1, h2]

end Go.Proofs.Ytailaehpgmpaaab
