/- Package parse: the rows of words; takesOne; label names. -/
import Derived.Test.YtnimdngiejcljaaPc
import Derived.Test.YtnimdngiejcljaaPd
namespace Go.Proofs.Ytnimdngiejcljaa
open Go.RowKit
set_option linter.unusedVariables false
set_option linter.unusedSimpArgs false
set_option maxRecDepth 20000

/-- What a call answers that makes a row of words. -/
def RowOut (l : List ByteArray) (w : World) (e : Ending) (w' : World) : Prop := ∃ a c, e = .returned (.slice a l.length c) ∧ SRd strE w' a l ∧ w.grownBy w' none
theorem strE_flat (l : List ByteArray) : strE.flat l = l.map (fun s => Value.string s) := by
  unfold Elem.flat
  induction l with
  | nil => rfl
  | cons x r ih => rw [List.flatMap_cons, ih]; rfl
theorem numE_flat (l : List Int) : numE.flat l = l.map (fun s => Value.int .i64 s) := by
  unfold Elem.flat
  induction l with
  | nil => rfl
  | cons x r ih => rw [List.flatMap_cons, ih]; rfl
theorem row_lit (w : World) (l : List ByteArray) : SRd strE (w.alloc (.cells (l.map (fun s => Value.string s)).toArray 9)) (some ⟨w.heap.size, 0, none⟩) l := by
  refine .inr ⟨_, 0, rfl, fun j v hj => ?_⟩
  rw [Nat.zero_add, cell_of_row _ _ _ _ _ _ (heap_alloc_new w _)]
  rw [strE_flat] at hj
  simpa using hj
theorem num_lit (w : World) (l : List Int) : SRd numE (w.alloc (.cells (l.map (fun s => Value.int .i64 s)).toArray 3)) (some ⟨w.heap.size, 0, none⟩) l := by
  refine .inr ⟨_, 0, rfl, fun j v hj => ?_⟩
  rw [Nat.zero_add, cell_of_row _ _ _ _ _ _ (heap_alloc_new w _)]
  rw [numE_flat] at hj
  simpa using hj
theorem f_ops (w : World) : Calls Try.prog 49 #[] w fun e w' => RowOut opsR w e w' := by
  have HL := hid (row_lit w opsR)
  have HG := hid (World.grownBy_alloc w (.cells (opsR.map (fun s => Value.string s)).toArray 9) none)
  go_enter Try.func49, Try.ntmps49
  go_wp2
  go_ret
  exact ⟨_, _, rfl, HL.out, HG.out⟩
theorem f_grps (w : World) : Calls Try.prog 58 #[] w fun e w' => RowOut grpsR w e w' := by
  have HL := hid (row_lit w grpsR)
  have HG := hid (World.grownBy_alloc w (.cells (grpsR.map (fun s => Value.string s)).toArray 9) none)
  go_enter Try.func58, Try.ntmps58
  go_wp2
  go_ret
  exact ⟨_, _, rfl, HL.out, HG.out⟩
theorem f_funcs (w : World) : Calls Try.prog 75 #[] w fun e w' => RowOut funcsR w e w' := by
  have HL := hid (row_lit w funcsR)
  have HG := hid (World.grownBy_alloc w (.cells (funcsR.map (fun s => Value.string s)).toArray 9) none)
  go_enter Try.func75, Try.ntmps75
  go_wp2
  go_ret
  exact ⟨_, _, rfl, HL.out, HG.out⟩
theorem f_aggs (w : World) : Calls Try.prog 77 #[] w fun e w' => RowOut aggsR w e w' := by
  have HL := hid (row_lit w aggsR)
  have HG := hid (World.grownBy_alloc w (.cells (aggsR.map (fun s => Value.string s)).toArray 9) none)
  go_enter Try.func77, Try.ntmps77
  go_wp2
  go_ret
  exact ⟨_, _, rfl, HL.out, HG.out⟩
theorem f_kinds (w : World) : Calls Try.prog 88 #[] w fun e w' => RowOut kindsR w e w' := by
  have HL := hid (row_lit w kindsR)
  have HG := hid (World.grownBy_alloc w (.cells (kindsR.map (fun s => Value.string s)).toArray 9) none)
  go_enter Try.func88, Try.ntmps88
  go_wp2
  go_ret
  exact ⟨_, _, rfl, HL.out, HG.out⟩
/-- What takesOne answers. -/
def OneOut (b p : Nat) (K : Tk) (k : Nat) (op : Int) (v : Value) (L : List Row) (row : List ByteArray) (may : List Int) (ts : List Tok) (w : World) (e : Ending) (w' : World) : Prop :=
  e = .returned (.int .i64 (takeN row may ts)) ∧ ∃ k', RdAt w' b p K k' op v L ∧ Ahead K k' (takeR row may ts) ∧ k ≤ k' ∧ (takeN row may ts ≠ 0 → k < k') ∧ Fr (Me p) w w'
theorem numIn_next {row : List ByteArray} {q : Tok} (h : numIn row q ≠ 0) : q.1 ≠ 0 := by
  unfold numIn meanB at h
  intro e
  rw [e] at h
  exact h rfl
theorem f_one {w : World} {b p : Nat} {K : Tk} {k : Nat} {op : Int} {v : Value} {L : List Row} {ts : List Tok} (h : RdAt w b p K k op v L) (ha : Ahead K k ts) (a a2 : Option Addr) (c c2 : Nat) (row : List ByteArray) (may : List Int) (hr : SRd strE w a row) (hl : row.length ≤ 1000) (hm : SRd numE w a2 may) (hl2 : may.length ≤ 1000) (h0 : may.contains 0 = false) :
    Calls Try.prog 48 #[.pointer (some ⟨p, 0, none⟩), .slice a row.length c, .slice a2 may.length c2] w fun e w' => OneOut b p K k op v L row may ts w e w' := by
  have H := hid h
  have HA := hid ha
  have HR := hid hr
  have HM := hid hm
  have hk := ha.lt
  have hs := ha.small
  have H0 := hid h0
  have HN := hid (numIn_next (row := row) (q := hd ts))
  clear h ha hr hm h0
  cases hc : may.contains (numIn row (hd ts)) with
  | true =>
    have HC := hid hc
    have hne : numIn row (hd ts) ≠ 0 := fun e => by rw [e, H0.out] at hc; cases hc
    have HNE := hid hne
    clear hc hne
    go_enter Try.func48, Try.ntmps48
    go_wp2_with fail
    refine (f_here H.out HA.out).mono ?_
    rintro e w1 ⟨rfl, g1⟩
    have G1 := hid g1
    clear g1
    go_wp2_with fail
    refine (f_numIn a c row (hd ts) w1 (HR.out.grown G1.out (by simp)) hl).mono ?_
    rintro e w2 ⟨rfl, g2⟩
    have G2 : Hid (w.grownBy w2 none) := G1.out.trans g2
    clear g2
    go_wp2_with fail
    refine (f_contains a2 c2 may _ w2 (HM.out.grown G2.out (by simp)) hl2).mono ?_
    rintro e w3 ⟨rfl, rfl⟩
    rw [HC.out]
    obtain ⟨c0, c1, c2, c3⟩ := (H.out.grown G2.out).cells
    have z1 := (H.out.grown G2.out).free 1
    clear c0 c2 c3
    go_wp2
    go_ret
    unfold OneOut takeN takeR
    simp only [HC.out, if_true]
    exact ⟨rfl, k + 1, (H.out.step G2.out).1, HA.out.next (HN.out HNE.out), by omega, by omega, (H.out.step G2.out).2⟩
  | false =>
    have HC := hid hc
    clear hc
    go_enter Try.func48, Try.ntmps48
    go_wp2_with fail
    refine (f_here H.out HA.out).mono ?_
    rintro e w1 ⟨rfl, g1⟩
    have G1 := hid g1
    clear g1
    go_wp2_with fail
    refine (f_numIn a c row (hd ts) w1 (HR.out.grown G1.out (by simp)) hl).mono ?_
    rintro e w2 ⟨rfl, g2⟩
    have G2 : Hid (w.grownBy w2 none) := G1.out.trans g2
    clear g2
    go_wp2_with fail
    refine (f_contains a2 c2 may _ w2 (HM.out.grown G2.out (by simp)) hl2).mono ?_
    rintro e w3 ⟨rfl, rfl⟩
    rw [HC.out]
    go_wp2
    go_ret
    unfold OneOut takeN takeR
    simp only [HC.out, Bool.false_eq_true, if_false]
    exact ⟨rfl, k, H.out.grown G2.out, HA.out, Nat.le_refl _, fun h => absurd rfl h, .of G2.out⟩
end Go.Proofs.Ytnimdngiejcljaa
