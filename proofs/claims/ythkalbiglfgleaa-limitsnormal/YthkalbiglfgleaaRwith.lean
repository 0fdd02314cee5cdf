/- The document's own With. -/
import Derived.Test.YthkalbiglfgleaaRlab
import Derived.Test.YthkalbiglfgleaaDraw
namespace Go.Proofs.Ythkalbiglfgleaa
set_option maxRecDepth 20000
open Go.RowKit
set_option linter.unusedVariables false

theorem sown_form {e : TypeId} {w : World} {base n : Nat} {v : Value} {ls : List Lab} (h : SOwn labE e w base v n ls) : ∃ a c, v = .slice a n c ∧ (a = none → c = 0) ∧ n ≤ c ∧ c ≤ maxLen ∧ (∀ x, a = some x → base ≤ x.block ∧ x.off = 0 ∧ x.spot = none) := by
  rcases h.2 with ⟨h', h0⟩ | ⟨g, cap, cur, h', h1, h2, h3, h4, _⟩
  · subst h0
    exact ⟨none, 0, h', fun _ => rfl, Nat.le_refl _, Nat.zero_le _, by simp⟩
  · exact ⟨_, cap, h', by simp, h3, h4, fun x hx => by cases hx; exact ⟨h1, rfl, rfl⟩⟩
def leB (a n : ByteArray) : Bool := Op.bytesLess a.toList n.toList || a.toList == n.toList
end Go.Proofs.Ythkalbiglfgleaa
