/- Package types: has a node a form? (its lists read) -/
import Derived.Test.YthbodkgcbfplgaaGreatKga
namespace Go.Proofs.YthbodkgcbfplgaaGreat
open Go.RowKit
set_option linter.unusedVariables false
set_option linter.unusedSimpArgs false
set_option maxRecDepth 20000

/-- A node's lists are read. -/
structure NdRd (w : World) (q : Row) : Prop where
  mat : SRd matE w q.2.1.1 q.1.mat
  ml : q.2.1.2.1 = q.1.mat.length
  nam : SRd strE w q.2.2.1 q.1.names
  nl : q.2.2.2.1 = q.1.names.length
  mz : q.1.mat.length ≤ 9223372036854775807
  nz : q.1.names.length ≤ 9223372036854775807
theorem NdRd.grown {w w' : World} {q : Row} (h : NdRd w q) (hg : w.grownBy w' none) : NdRd w' q := ⟨h.mat.grown hg (by simp), h.ml, h.nam.grown hg (by simp), h.nl, h.mz, h.nz⟩
set_option maxHeartbeats 8000000 in
theorem f_hasForm (q : Row) (w : World) (h : NdRd w q) : Calls Tryz.prog 30 #[.agg (ndA q.1 q.2.1 q.2.2)] w fun e w' => e = .returned (.bool (formB q.1)) ∧ w.grownBy w' none := by
  obtain ⟨x, ⟨ma, mn, mc⟩, ⟨na, nn, nc⟩⟩ := q
  obtain ⟨hm, hml, hn, hnl, hmz, hnz⟩ := h
  simp only at hm hml hn hnl hmz hnz
  subst hnl
  unfold formB
  cases hk : kindB x.kind with
  | false =>
    have HFR : Hid (∀ W, Calls Tryz.prog 48 #[.int .i64 x.kind] W fun e w' => e = .returned (.tuple #[.agg (foA (foOf x.kind)), .bool false]) ∧ W.grownBy w' none) := fun W => by rw [← hk]; exact f_formOf _ W
    have G0 := hid (World.grownBy_alloc w (.cells (ndA x (ma, mn, mc) (na, x.names.length, nc)) 37) none)
    clear hm hml hn hmz hnz hk
    unfold ndA slV foA at *
    go_enter Tryz.func30, Tryz.ntmps30
    go_wp2_with fail
    refine (HFR.out _).mono ?_
    rintro e w1 ⟨rfl, g1⟩
    have G1 := hid ((G0.out.trans g1).trans (World.grownBy_alloc w1 (.cells #[.bool (foOf x.kind).number, .bool (foOf x.kind).asks, .bool (foOf x.kind).compare, .int .i64 (foOf x.kind).ops.1, .int .i64 (foOf x.kind).ops.2, .int .i64 (foOf x.kind).widths.1, .int .i64 (foOf x.kind).widths.2, .int .i64 (foOf x.kind).backs.1, .int .i64 (foOf x.kind).backs.2, .int .i64 (foOf x.kind).groups.1, .int .i64 (foOf x.kind).groups.2, .int .i64 (foOf x.kind).parts] 83) none))
    clear g1
    go_upto_region 2 with fail
    simp only [List.append_eq, List.cons_append, List.nil_append]
    go_wp2
    go_ret
    exact ⟨rfl, G1.out⟩
  | true =>
    have h0 := hf_walk x.kind x.op x.width x.back x.group x.parts (foOf x.kind).ops.1 (foOf x.kind).ops.2 (foOf x.kind).widths.1 (foOf x.kind).widths.2 (foOf x.kind).backs.1 (foOf x.kind).backs.2 (foOf x.kind).groups.1 (foOf x.kind).groups.2 (foOf x.kind).parts x.text ma na mn mc x.names.length nc x.bool (foOf x.kind).number (foOf x.kind).asks (foOf x.kind).compare
      (inB (foOf x.kind).ops x.op) (textB (foOf x.kind) x.text) (inB (foOf x.kind).widths x.width) (inB (foOf x.kind).backs x.back) (grpB (foOf x.kind) x.group x.names) (cmpT x.op) (decide (x.parts = (foOf x.kind).parts)) (decide (x.mat.length = 0)) w
      (fun W => by rw [← hk]; exact f_formOf _ W) (fun W => f_has _ _ W) (fun W => f_takesText _ _ W) (fun W => f_has _ _ W) (fun W => f_has _ _ W) (fun W hg => f_takesGroup _ _ _ _ _ W (hn.grown hg (by simp)) hnz) (fun W => f_isCmpT _ W)
      (by rfl) (by rw [hml]; by_cases h : x.mat.length = 0 <;> simp [h])
    exact h0
end Go.Proofs.YthbodkgcbfplgaaGreat
