/- Lists of nodes that are made since: appended to. -/
import Derived.Test.YtnimdngiejcljaaWe
namespace Go.Proofs.Ytnimdngiejcljaa
open Go.ChangeShapes Go.WideShapes Go.ChangeAt Go.RowKit
set_option linter.unusedVariables false
set_option linter.unusedSimpArgs false
set_option maxRecDepth 20000

/-- A node's lists: they came in, or were made since. -/
def NdK (W0 w : World) (q : Row) : Prop := NdRd W0 q ∨ (SOwn matE 44 w W0.heap.size (slV q.2.1) q.1.mat.length q.1.mat ∧ SOwn strE 9 w W0.heap.size (slV q.2.2) q.1.names.length q.1.names)
/-- A list of nodes that was made since. -/
structure NsMk (W0 w : World) (v : Value) (L : List Row) : Prop where
  up : W0.grownBy w none
  own : SOwn ndE 34 w W0.heap.size v L.length L
  each : ∀ q ∈ L, NdK W0 w q
theorem NdK.grown {W0 w w' : World} {q : Row} (h : NdK W0 w q) (hg : w.grownBy w' none) : NdK W0 w' q := h.imp id fun h => ⟨SOwn.kept h.1 hg (Classical.em _), SOwn.kept h.2 hg (Classical.em _)⟩
theorem NsMk.grown {W0 w w' : World} {v : Value} {L : List Row} (h : NsMk W0 w v L) (hg : w.grownBy w' none) : NsMk W0 w' v L := ⟨h.up.trans hg, SOwn.kept h.own hg (Classical.em _), fun q hq => (h.each q hq).grown hg⟩
theorem NsMk.app {W0 w w' : World} {v v' : Value} {L Z : List Row} (h : NsMk W0 w v L) (hz : ∀ q ∈ Z, NdK W0 w q) (ho : SOwn ndE 34 w' W0.heap.size v' (L.length + Z.length) (L ++ Z)) (hg : w.grownBy w' v.ownBlock) : NsMk W0 w' v' (L ++ Z) := by
  refine ⟨gb_trans h.up hg (fun k hk => .inl (SOwn.block h.own k hk).1), by rw [List.length_append]; exact ho, fun q hq => ?_⟩
  have h1 : NdK W0 w q := (List.mem_append.1 hq).elim (h.each q) (hz q)
  exact h1.imp id fun h1 => ⟨kept_apart h.own h1.1 (by decide) hg, kept_apart h.own h1.2 (by decide) hg⟩
theorem NsMk.sl {W0 w : World} {v : Value} {L : List Row} (h : NsMk W0 w v L) : ∃ a c, v = .slice a L.length c := by
  rcases h.own.2 with ⟨e, h0⟩ | ⟨g, c, cur, e, _⟩
  · exact ⟨none, 0, by rw [e, h0]⟩
  · exact ⟨_, c, e⟩
theorem NsMk.rds {W0 w : World} {a : Option Addr} {n c : Nat} {L : List Row} (h : NsMk W0 w (.slice a n c) L) : NsRd w a L ∧ n = L.length := by
  have h0 := own_sl (s := (a, n, c)) h.own
  refine ⟨⟨h0.2.1, fun q hq => ?_⟩, h0.1⟩
  rcases h.each q hq with h1 | ⟨h1, h2⟩
  · exact h1.grown h.up
  · have hm := own_sl h1
    have hn := own_sl h2
    exact ⟨hm.2.1, hm.1, hn.2.1, hn.1, hm.2.2, hn.2.2⟩
theorem NdAt.nsMk {W0 w0 w : World} {v : Value} {L : List Row} (h : NdAt w w0.heap.size v L) (h0 : W0.grownBy w0 none) (hg : w0.grownBy w none) : NsMk W0 w v L :=
  ⟨h0.trans hg, SOwn.base h.own h0.size, fun q hq => .inr ⟨SOwn.base (h.mat q hq) h0.size, SOwn.base (h.nam q hq) h0.size⟩⟩
/-- CopyNodes of what came in. -/
theorem c_copy {W0 : World} {a : Option Addr} {c : Nat} {Q : List Row} (h : NsIn W0 a c Q) (V : World) (hV : W0.grownBy V none) : Calls Try.prog 15 #[.slice a Q.length c] V fun e w' => ∃ a1 c1 L, e = .returned (.slice a1 Q.length c1) ∧ Hid (NsMk W0 w' (.slice a1 Q.length c1) L) ∧ Hid (L.map (·.1) = Q.map (·.1)) :=
  (f_copyN a c Q V (h.grown hV)).mono fun e w' ⟨a1, c1, L, he, hn, hl, hg⟩ => ⟨a1, c1, L, he, hn.nsMk hV hg, hl⟩
end Go.Proofs.Ytnimdngiejcljaa
