/- Package parse: here. -/
import Derived.Test.YtnimdngiejcljaaPa
import Derived.Test.YtnimdngiejcljaaAw
namespace Go.Proofs.Ytnimdngiejcljaa
open Go.RowKit
set_option linter.unusedVariables false
set_option linter.unusedSimpArgs false
set_option maxRecDepth 20000

def tkV (q : Tok) : Value := .agg #[.int .i64 q.1, .int .i64 q.2.1, .string q.2.2.1, .int .i64 q.2.2.2]
theorem f_here {w : World} {b p : Nat} {K : Tk} {k : Nat} {op : Int} {v : Value} {L : List Row} {ts : List Tok} (h : RdAt w b p K k op v L) (ha : Ahead K k ts) :
    Calls Try.prog 38 #[.pointer (some ⟨p, 0, none⟩)] w fun e w' => e = .returned (tkV (hd ts)) ∧ w.grownBy w' none := by
  have HG := hid (World.grownBy_alloc w (.cells #[.int .i64 0, .int .i64 0, .string ⟨#[]⟩, .int .i64 0] 52) none)
  have HB : Hid ((w.alloc (.cells #[.int .i64 0, .int .i64 0, .string ⟨#[]⟩, .int .i64 0] 52)).heap[w.heap.size]? = some (.cells #[.int .i64 0, .int .i64 0, .string ⟨#[]⟩, .int .i64 0] 52 (0, 0))) := heap_alloc_new w _
  have h1 := h.grown HG.out
  obtain ⟨c0, c1, c2, c3⟩ := h1.cells
  obtain ⟨r0, r1, r2, r3⟩ := tok_cells h1.tok ha.get
  have hk : (k : Int) < (K.T.length : Int) := by have := ha.lt; omega
  have hs := ha.small
  unfold tkV
  generalize hd ts = q at r0 r1 r2 r3 ⊢
  obtain ⟨kd, a, t, sp⟩ := q
  simp only [Nat.zero_add] at r0 r1 r2 r3
  have hp : p ≠ w.heap.size := by have := h.lt; omega
  have hfree := free_row HB.out
  have hf0 := hfree 0
  have hf1 := hfree 1
  have hf2 := hfree 2
  have hf3 := hfree 3
  obtain ⟨z0, z1, z2, z3⟩ := cell4 HB.out
  clear h h1 ha c2 c3 hfree
  go_enter Try.func38, Try.ntmps38
  go_wp2
  go_region
  go_wp2
  refine bodyPost_ret (v := .agg #[.int .i64 kd, .int .i64 a, .string t, .int .i64 sp]) (results_cell_row Try.results38 _ _ w.heap.size 52 _ (0, 0) _ rfl (heap_alloc_new w _) Try.underlying52 rfl isz32) rfl ?_
  exact ⟨rfl, gb_drew (World.grownBy_alloc w _ none)⟩
theorem fld0 (x y z u : Value) (w : World) : (Instr.field 52 (.agg #[x, y, z, u]) 0).run Try.prog w = .ok x w := by kernel_rfl
theorem fld1 (x y z u : Value) (w : World) : (Instr.field 52 (.agg #[x, y, z, u]) 1).run Try.prog w = .ok y w := by kernel_rfl
theorem fld2 (x y z u : Value) (w : World) : (Instr.field 52 (.agg #[x, y, z, u]) 2).run Try.prog w = .ok z w := by kernel_rfl
theorem fld3 (x y z u : Value) (w : World) : (Instr.field 52 (.agg #[x, y, z, u]) 3).run Try.prog w = .ok u w := by kernel_rfl
theorem f_mean (q : Tok) (w : World) : Calls Try.prog 63 #[tkV q] w fun e w' => e = .returned (.bool (meanB q)) ∧ w.grownBy w' none := by
  obtain ⟨kd, a, t, sp⟩ := q
  have HG := hid (World.grownBy_alloc w (.cells #[.int .i64 kd, .int .i64 a, .string t, .int .i64 sp] 52) none)
  unfold tkV meanB
  by_cases h3 : kd = 3
  · have q0 : (kd == 3) = true := by simpa using h3
    have Q0 : Hid (decide (kd = 3) = true) := by show _ = _; simpa using h3
    clear h3
    go_enter Try.func63, Try.ntmps63
    go_wp2
    go_ret
    refine ⟨ret_bool ?_, HG.out⟩
    have := Q0.out
    simp only [this, Bool.true_or]
  · have q0 : (kd == 3) = false := by simpa using h3
    have Q0 : Hid (decide (kd = 3) = false) := by show _ = _; simpa using h3
    have Q1 : Hid ((kd == 5) = decide (kd = 5)) := by show _ = _; rw [Bool.eq_iff_iff]; simp
    clear h3
    go_enter Try.func63, Try.ntmps63
    go_wp2
    go_ret
    refine ⟨ret_bool ?_, HG.out⟩
    have h1 := Q0.out
    have h2 := Q1.out
    simp only [h1, h2, Bool.false_or]
theorem f_is {w : World} {b p : Nat} {K : Tk} {k : Nat} {op : Int} {v : Value} {L : List Row} {ts : List Tok} (h : RdAt w b p K k op v L) (ha : Ahead K k ts) (s : ByteArray) :
    Calls Try.prog 57 #[.pointer (some ⟨p, 0, none⟩), .string s] w fun e w' => e = .returned (.bool (isB s ts)) ∧ w.grownBy w' none := by
  have H := hid h
  have HA := hid ha
  have E := hid (str_eq (hd ts).2.2.1 s)
  cases hm : meanB (hd ts) with
  | true =>
    have HM := hid hm
    have f2 := fld2 (.int .i64 (hd ts).1) (.int .i64 (hd ts).2.1) (.string (hd ts).2.2.1) (.int .i64 (hd ts).2.2.2)
    clear h ha hm
    go_enter Try.func57, Try.ntmps57
    go_wp2_with fail
    refine (f_here H.out HA.out).mono ?_
    rintro e w1 ⟨rfl, g1⟩
    have G1 := hid g1
    clear g1
    go_wp2_with fail
    refine (f_mean _ _).mono ?_
    rintro e w2 ⟨rfl, g2⟩
    rw [HM.out]
    have G2 : Hid (w.grownBy w2 none) := G1.out.trans g2
    clear g2
    go_wp2_with fail
    refine (f_here (H.out.grown G2.out) HA.out).mono ?_
    rintro e w3 ⟨rfl, g3⟩
    have G3 : Hid (w.grownBy w3 none) := G2.out.trans g3
    clear g3
    unfold tkV
    go_wp2
    go_ret
    refine ⟨ret_bool ?_, G3.out⟩
    have := E.out
    simp only [isB, HM.out, Bool.true_and, this]
  | false =>
    have HM := hid hm
    clear h ha hm
    go_enter Try.func57, Try.ntmps57
    go_wp2_with fail
    refine (f_here H.out HA.out).mono ?_
    rintro e w1 ⟨rfl, g1⟩
    have G1 := hid g1
    clear g1
    go_wp2_with fail
    refine (f_mean _ _).mono ?_
    rintro e w2 ⟨rfl, g2⟩
    rw [HM.out]
    have G2 : Hid (w.grownBy w2 none) := G1.out.trans g2
    clear g2
    go_wp2
    go_ret
    refine ⟨ret_bool ?_, G2.out⟩
    simp only [isB, HM.out, Bool.false_and]
/-- throw: what is wrong, at the token that is here. -/
theorem f_throw {w : World} {b p : Nat} {K : Tk} {k : Nat} {op : Int} {v : Value} {L : List Row} {ts : List Tok} (h : RdAt w b p K k op v L) (ha : Ahead K k ts) (c : Int) :
    Calls Try.prog 46 #[.pointer (some ⟨p, 0, none⟩), .int .i64 c] w fun e w' => e = .panicked (flt (hd ts).2.1 c) ∧ w.grownBy w' none := by
  have H := hid h
  have HA := hid ha
  have f1 := fld1 (.int .i64 (hd ts).1) (.int .i64 (hd ts).2.1) (.string (hd ts).2.2.1) (.int .i64 (hd ts).2.2.2)
  clear h ha
  go_enter Try.func46, Try.ntmps46
  go_wp2_with fail
  refine (f_here H.out HA.out).mono ?_
  rintro e w1 ⟨rfl, g1⟩
  have G1 := hid g1
  clear g1
  unfold tkV
  go_wp2
  exact ⟨rfl, rfl, G1.out⟩
/-- What a call answers that reads nothing on: nothing, or what is wrong here. -/
def MustOut (x : Bool) (ts : List Tok) (w : World) (e : Ending) (w' : World) : Prop := ((x = true ∧ e = .returned (.tuple #[])) ∨ (x = false ∧ e = .panicked (flt (hd ts).2.1 (failC ts)))) ∧ w.grownBy w' none
theorem f_must {w : World} {b p : Nat} {K : Tk} {k : Nat} {op : Int} {v : Value} {L : List Row} {ts : List Tok} (h : RdAt w b p K k op v L) (ha : Ahead K k ts) (x : Bool) :
    Calls Try.prog 37 #[.pointer (some ⟨p, 0, none⟩), .bool x] w fun e w' => MustOut x ts w e w' := by
  have H := hid h
  have HA := hid ha
  cases x with
  | true =>
    clear h ha
    go_enter Try.func37, Try.ntmps37
    go_wp2
    go_end0
    exact ⟨.inl ⟨rfl, rfl⟩, World.grownBy.refl _ _⟩
  | false =>
    by_cases h0 : (hd ts).1 = 0
    · have q0 : ((hd ts).1 == 0) = true := by simpa using h0
      have HC : Hid (failC ts = 180) := by show _ = _; unfold failC; rw [if_pos h0]
      have f0 := fld0 (.int .i64 (hd ts).1) (.int .i64 (hd ts).2.1) (.string (hd ts).2.2.1) (.int .i64 (hd ts).2.2.2)
      clear h ha h0
      go_enter Try.func37, Try.ntmps37
      go_wp2_with fail
      refine (f_here H.out HA.out).mono ?_
      rintro e w1 ⟨rfl, g1⟩
      have G1 := hid g1
      clear g1
      unfold tkV
      go_wp2_with fail
      refine (f_throw (H.out.grown G1.out) HA.out 180).mono ?_
      rintro e w2 ⟨rfl, g2⟩
      have G2 : Hid (w.grownBy w2 none) := G1.out.trans g2
      clear g2
      go_wp2
      exact ⟨rfl, .inr ⟨rfl, by rw [HC.out]⟩, G2.out⟩
    · have q0 : ((hd ts).1 == 0) = false := by simpa using h0
      have HC : Hid (failC ts = 181) := by show _ = _; unfold failC; rw [if_neg h0]
      have f0 := fld0 (.int .i64 (hd ts).1) (.int .i64 (hd ts).2.1) (.string (hd ts).2.2.1) (.int .i64 (hd ts).2.2.2)
      clear h ha h0
      go_enter Try.func37, Try.ntmps37
      go_wp2_with fail
      refine (f_here H.out HA.out).mono ?_
      rintro e w1 ⟨rfl, g1⟩
      have G1 := hid g1
      clear g1
      unfold tkV
      go_wp2_with fail
      refine (f_throw (H.out.grown G1.out) HA.out 181).mono ?_
      rintro e w2 ⟨rfl, g2⟩
      have G2 : Hid (w.grownBy w2 none) := G1.out.trans g2
      clear g2
      go_wp2
      exact ⟨rfl, .inr ⟨rfl, by rw [HC.out]⟩, G2.out⟩
end Go.Proofs.Ytnimdngiejcljaa
