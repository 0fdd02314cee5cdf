/- Package parse: awake. -/
import Derived.Test.YtnimdngiejcljaaQi
namespace Go.Proofs.Ytnimdngiejcljaa
open Go.RowKit
set_option linter.unusedVariables false
set_option linter.unusedSimpArgs false
set_option maxRecDepth 20000

def awT : List Tok := [(3, 0, ⟨#[115, 117, 109]⟩, 0), (3, 4, ⟨#[98, 121]⟩, 0), (5, 7, ⟨#[40]⟩, 0), (3, 8, ⟨#[97]⟩, 0), (5, 9, ⟨#[41]⟩, 0), (5, 11, ⟨#[40]⟩, 0), (3, 12, ⟨#[114, 97, 116, 101]⟩, 0), (5, 16, ⟨#[40]⟩, 0), (3, 17, ⟨#[120]⟩, 0), (5, 18, ⟨#[91]⟩, 0), (2, 19, ⟨#[53, 109]⟩, 300), (5, 21, ⟨#[93]⟩, 0), (5, 22, ⟨#[41]⟩, 0), (5, 23, ⟨#[41]⟩, 0), (5, 25, ⟨#[47]⟩, 0), (1, 27, ⟨#[50]⟩, 0), (0, 28, ⟨#[]⟩, 0)]
def awN : List Nd := [⟨3, 0, ⟨#[]⟩, [(1, nameS, ⟨#[120]⟩)], 300, 0, 0, [], false, 0⟩, callN 1, aggN 1 1 [⟨#[97]⟩], numN ⟨#[50]⟩, binN 4 false 0 []]
theorem aw_lex : lexR ⟨#[115, 117, 109, 32, 98, 121, 32, 40, 97, 41, 32, 40, 114, 97, 116, 101, 40, 120, 91, 53, 109, 93, 41, 41, 32, 47, 32, 50]⟩ = .ok awT := lex_lit _ _ _ rfl (by decide) (by rfl)
theorem aw_lex2 : lexR ⟨#[120, 32, 120]⟩ = .ok [(3, 0, ⟨#[120]⟩, 0), (3, 2, ⟨#[120]⟩, 0), (0, 3, ⟨#[]⟩, 0)] := lex_lit _ _ _ rfl (by decide) (by rfl)
theorem aw_tree2 : parseT [(3, 0, ⟨#[120]⟩, 0), (3, 2, ⟨#[120]⟩, 0), (0, 3, ⟨#[]⟩, 0)] = .bad 2 181 := by kernel_rfl
theorem aw_tree : parseT awT = .ok awN := by kernel_rfl
theorem aw_pa : parseR ⟨#[115, 117, 109, 32, 98, 121, 32, 40, 97, 41, 32, 40, 114, 97, 116, 101, 40, 120, 91, 53, 109, 93, 41, 41, 32, 47, 32, 50]⟩ = .ok awN := by unfold parseR; rw [aw_lex]; exact aw_tree
theorem aw_pa2 : parseR ⟨#[120, 32, 120]⟩ = .bad 2 181 := by unfold parseR; rw [aw_lex2]; exact aw_tree2
/-- The cells of a node in a list. -/
theorem nd_cells {w : World} {b off i : Nat} {L : List Row} {q : Row} (h : SRd ndE w (some ⟨b, off, none⟩) L) (hq : L[i]? = some q) :
    w.cell? ⟨b, off + i * 10, none⟩ = some (.int .i64 q.1.kind) ∧ w.cell? ⟨b, off + i * 10 + 1, none⟩ = some (.int .i64 q.1.op) ∧ w.cell? ⟨b, off + i * 10 + 2, none⟩ = some (.string q.1.text) ∧ w.cell? ⟨b, off + i * 10 + 3, none⟩ = some (slV q.2.1) ∧ w.cell? ⟨b, off + i * 10 + 4, none⟩ = some (.int .i64 q.1.width) ∧ w.cell? ⟨b, off + i * 10 + 5, none⟩ = some (.int .i64 q.1.back) ∧ w.cell? ⟨b, off + i * 10 + 6, none⟩ = some (.int .i64 q.1.group) ∧ w.cell? ⟨b, off + i * 10 + 7, none⟩ = some (slV q.2.2) ∧ w.cell? ⟨b, off + i * 10 + 8, none⟩ = some (.bool q.1.bool) ∧ w.cell? ⟨b, off + i * 10 + 9, none⟩ = some (.int .i64 q.1.parts) := by
  obtain ⟨b', off', e, hc⟩ := h.at (by have := (List.getElem?_eq_some_iff.1 hq).1; omega)
  cases e
  refine ⟨hc i q 0 _ hq rfl, ?_, ?_, ?_, ?_, ?_, ?_, ?_, ?_, ?_⟩ <;> rw [Nat.add_assoc]
  · exact hc i q 1 _ hq rfl
  · exact hc i q 2 _ hq rfl
  · exact hc i q 3 _ hq rfl
  · exact hc i q 4 _ hq rfl
  · exact hc i q 5 _ hq rfl
  · exact hc i q 6 _ hq rfl
  · exact hc i q 7 _ hq rfl
  · exact hc i q 8 _ hq rfl
  · exact hc i q 9 _ hq rfl
theorem row_of {Q : List Row} {ns : List Nd} {i : Nat} {x : Nd} (h : Q.map (·.1) = ns) (hx : ns[i]? = some x) : ∃ q, Q[i]? = some q ∧ q.1 = x := by
  rw [← h, List.getElem?_map] at hx
  cases hq : Q[i]? with
  | none => rw [hq] at hx; cases hx
  | some q => rw [hq] at hx; exact ⟨q, rfl, Option.some.inj hx⟩
theorem NdAt.some {w : World} {b : Nat} {v : Value} {L : List Row} (h : NdAt w b v L) (hl : 0 < L.length) : ∃ g c, v = .slice (some ⟨g, 0, none⟩) L.length c ∧ SRd ndE w (some ⟨g, 0, none⟩) L := by
  rcases h.own.2 with ⟨e, h0⟩ | ⟨g, c, cur, e, _⟩
  · omega
  · have := h.own
    rw [e] at this
    exact ⟨g, c, e, this.rd⟩
theorem NdAt.grown {w w' : World} {b : Nat} {v : Value} {L : List Row} (h : NdAt w b v L) (hg : w.grownBy w' none) : NdAt w' b v L := h.same (fun j _ hj => hg.block j hj (by simp))
set_option maxHeartbeats 4000000 in
theorem f_awake (w : World) : Calls Try.prog 10 #[] w fun e w' => e = .returned (.bool true) ∧ w.grownBy w' none := by
  have HC1 : Hid (∀ w, Calls Try.prog 8 #[.string ⟨#[115, 117, 109, 32, 98, 121, 32, 40, 97, 41, 32, 40, 114, 97, 116, 101, 40, 120, 91, 53, 109, 93, 41, 41, 32, 47, 32, 50]⟩] w fun e w' => ∃ g c Q, e = .returned (.tuple #[.slice (some ⟨g, 0, none⟩) 5 c, .int .i64 0, .int .i64 0]) ∧ SRd ndE w' (some ⟨g, 0, none⟩) Q ∧ Q.map (·.1) = awN ∧ w.grownBy w' none) := fun w => (f_parse _ w).mono fun e w' h => by
    rw [aw_pa] at h
    obtain ⟨v, Q, rfl, hn, hq, hg⟩ := h
    have hl : Q.length = 5 := by rw [← List.length_map (f := fun x : Row => x.1), hq]; rfl
    obtain ⟨g, c, rfl, hr⟩ := hn.some (by omega)
    rw [hl]
    exact ⟨g, c, Q, rfl, hr, hq, hg⟩
  have HC2 : Hid (∀ w, Calls Try.prog 8 #[.string ⟨#[120, 32, 120]⟩] w fun e w' => e = .returned (.tuple #[.slice none 0 0, .int .i64 2, .int .i64 181]) ∧ w.grownBy w' none) := fun w => (f_parse _ w).mono fun e w' h => by
    rw [aw_pa2] at h
    exact h
  go_enter Try.func10, Try.ntmps10
  go_wp2_with fail
  refine (HC1.out _).mono ?_
  rintro e w1 ⟨g, c, Q, rfl, hr, hq, hg1⟩
  have HR := hid hr
  have HQ := hid hq
  have HG1 := hid hg1
  clear hr hq hg1 HC1
  go_wp2_with fail
  refine (HC2.out _).mono ?_
  rintro e w2 ⟨rfl, hg2⟩
  have HG2 : Hid (w.grownBy w2 none) := HG1.out.trans hg2
  have hr2 := HR.out.grown hg2 (by simp)
  obtain ⟨q0, h0, e0⟩ := row_of (i := 0) HQ.out rfl
  obtain ⟨q2, h2, e2⟩ := row_of (i := 2) HQ.out rfl
  obtain ⟨q4, h4, e4⟩ := row_of (i := 4) HQ.out rfl
  obtain ⟨a0, a1, a2, a3, a4, a5, a6, a7, a8, a9⟩ := nd_cells hr2 h0
  obtain ⟨b0, b1, b2, b3, b4, b5, b6, b7, b8, b9⟩ := nd_cells hr2 h2
  obtain ⟨d0, d1, d2, d3, d4, d5, d6, d7, d8, d9⟩ := nd_cells hr2 h4
  simp only [e0, e2, e4, aggN, binN, Nat.zero_add, Nat.zero_mul, Nat.reduceMul, Nat.reduceAdd] at a0 a4 b0 b6 d1
  clear a1 a2 a3 a5 a6 a7 a8 a9 b1 b2 b3 b4 b5 b7 b8 b9 d0 d2 d3 d4 d5 d6 d7 d8 d9 HR HQ HG1 hg2 hr2 h0 h2 h4 e0 e2 e4 HC2
  go_wp2
  go_ret
  exact ⟨rfl, HG2.out⟩
end Go.Proofs.Ytnimdngiejcljaa
