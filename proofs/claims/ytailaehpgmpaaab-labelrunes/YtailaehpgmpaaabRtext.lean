/- The document's own Text. -/
import Derived.Test.YtailaehpgmpaaabRquote
namespace Go.Proofs.Ytailaehpgmpaaab
open Go.RowKit
set_option linter.unusedVariables false

/-- The text of the first k labels, not yet shut. -/
def textAt (ls : List Lab) : Nat → ByteArray
  | 0 => ⟨#[123]⟩
  | k + 1 => (if 0 < k then textAt ls k ++ ⟨#[44]⟩ else textAt ls k) ++ (ls.getD k (⟨#[]⟩, ⟨#[]⟩)).1 ++ ⟨#[61]⟩ ++ quoteR (ls.getD k (⟨#[]⟩, ⟨#[]⟩)).2
def labText (ls : List Lab) : ByteArray := textAt ls ls.length ++ ⟨#[125]⟩
theorem textAt_mono (ls : List Lab) (k : Nat) : (textAt ls k).size ≤ (textAt ls (k + 1)).size := by
  rw [textAt]
  split <;> simp only [ByteArray.size_append] <;> omega
theorem textAt_le (ls : List Lab) : ∀ (d k : Nat), (textAt ls k).size ≤ (textAt ls (k + d)).size := by
  intro d
  induction d with
  | zero => intro k; exact Nat.le_refl _
  | succ d ih => intro k; exact Nat.le_trans (ih k) (textAt_mono ls (k + d))


/-- Text, as its steps go. -/
structure Steps (ls : List Lab) (L : Nat) (TX : Nat → ByteArray) (R : ByteArray) : Prop where
  first : TX 0 = ⟨#[123]⟩
  step : ∀ (k : Nat) (p : Lab), ls[k]? = some p → TX (k + 1) = (if 0 < k then TX k ++ ⟨#[44]⟩ else TX k) ++ p.1 ++ ⟨#[61]⟩ ++ quoteR p.2
  last : TX L ++ ⟨#[125]⟩ = R
  size : ∀ k, k ≤ L → (TX k).size + 1 ≤ 9000000000000000000
theorem steps_text (ls : List Lab) (hB : (labText ls).size ≤ 9000000000000000000) : Steps ls ls.length (textAt ls) (labText ls) := by
  refine ⟨rfl, fun k p h => ?_, rfl, fun k hk => ?_⟩
  · rw [textAt, List.getD_eq_getElem?_getD, h]
    rfl
  · have h1 := textAt_le ls (ls.length - k) k
    rw [show k + (ls.length - k) = ls.length by omega] at h1
    have h2 : (labText ls).size = (textAt ls ls.length).size + 1 := by unfold labText; rw [ByteArray.size_append]; rfl
    omega

end Go.Proofs.Ytailaehpgmpaaab
