/- A region that draws its order, taken by hand: what is not wanted, what yields, what is called. -/
import Derived.Test.YtngkmpmhodgfeaaCturn
namespace Go.Proofs.Ytngkmpmhodgfeaa
open Go.RowKit
set_option linter.unusedVariables false

section
variable {P : Program} {ops : Array Oper} {Q : Exit → Act → World → Prop} {md : Region.Mode}

theorem arr_at {l : List Oper} {i : Nat} {o : Oper} (h : l[i]? = some o) : l.toArray[i]? = some o := by simpa using h

/-- Number i is not wanted. -/
theorem draw_skip (i : Nat) {l : List Oper} {oi : Oper} {fuel : Nat} {listed : Array Bool} {a : Act} {w : World} (hi : l[i]? = some oi)
    (hs : Region.noSelect l.toArray = true) (hf : Region.free md l.toArray listed i = true) (hr : (Region.ready md l.toArray listed).contains i = true)
    (hQ : ∀ c a w, Q (.panic c) (a.put oi.dst undef) w → Q (.panic c) a w) (hw : Region.wanted oi (yielded l.toArray a.tmps) = false)
    (h : wpAnyH P md l.toArray Q (fun _ => True) fuel (listed.setIfInBounds i true) (a.put oi.dst undef) w) : wpAnyH P md l.toArray Q (fun _ => True) (fuel + 1) listed a w :=
  wpAnyH_take (arr_at hi) hs hf hr hQ (.inr ⟨hw, rfl⟩) trivial h

/-- Number i yields v. -/
theorem draw_take (i : Nat) {l : List Oper} {oi : Oper} {v : Value} {fuel : Nat} {listed : Array Bool} {a : Act} {w : World} (hi : l[i]? = some oi)
    (hs : Region.noSelect l.toArray = true) (hf : Region.free md l.toArray listed i = true) (hr : (Region.ready md l.toArray listed).contains i = true)
    (hQ : ∀ c a w, Q (.panic c) (a.put oi.dst v) w → Q (.panic c) a w) (hw : Region.wanted oi (yielded l.toArray a.tmps) = true) (hy : ∀ w, (execOp a.eval oi).run P w = .ok (.value v) w)
    (h : wpAnyH P md l.toArray Q (fun _ => True) fuel (listed.setIfInBounds i true) (a.put oi.dst v) w) : wpAnyH P md l.toArray Q (fun _ => True) (fuel + 1) listed a w :=
  wpAnyH_take (arr_at hi) hs hf hr hQ (.inl ⟨hw, fun w _ => hy w⟩) trivial h

/-- Number i alone may come up. -/
theorem draw_one (i : Nat) {l : List Oper} {oi : Oper} {fuel : Nat} {listed : Array Bool} {a : Act} {w : World} (hi : l[i]? = some oi) (hr : Region.ready md l.toArray listed = [i]) (hw : Region.wanted oi (yielded l.toArray a.tmps) = true)
    (h : ∀ K' : Act → World → Prop, Shut (∀ a w, wpAnyH P md l.toArray Q (fun _ => True) fuel (listed.setIfInBounds i true) a w → K' a w) → Oper.wp P oi a w K' Q) : wpAnyH P md l.toArray Q (fun _ => True) (fuel + 1) listed a w :=
  wpAnyH_ready hr (by simp) (.cons (arr_at hi) (fun K hK => by rw [if_pos hw]; exact h K (fun a w hW => hK a w trivial (fun _ => hW))) .nil)
end
end Go.Proofs.Ytngkmpmhodgfeaa
