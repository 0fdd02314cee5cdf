/- Package parse: takes, needs; rows of words. -/
import Derived.Test.YtnimdngiejcljaaPb
namespace Go.Proofs.Ytnimdngiejcljaa
open Go.RowKit
set_option linter.unusedVariables false
set_option linter.unusedSimpArgs false
set_option maxRecDepth 20000

theorem mean_next {s : ByteArray} {ts : List Tok} (h : isB s ts = true) : (hd ts).1 ≠ 0 := by
  unfold isB meanB at h
  simp only [Bool.and_eq_true, Bool.or_eq_true, decide_eq_true_eq] at h
  omega
/-- A reader behind a token, in a world that has grown. -/
theorem RdAt.step {w w1 : World} {b p : Nat} {K : Tk} {k : Nat} {op : Int} {v : Value} {L : List Row} (h : RdAt w b p K k op v L) (g : w.grownBy w1 none) : RdAt (w1.setCell ⟨p, 1, none⟩ (.int .i64 ((k : Int) + 1))) b p K (k + 1) op v L ∧ Fr (Me p) w (w1.setCell ⟨p, 1, none⟩ (.int .i64 ((k : Int) + 1))) := by
  have := (h.grown g).at (k + 1)
  rw [show ((k + 1 : Nat) : Int) = (k : Int) + 1 by omega] at this
  exact ⟨this, (Fr.of g).trans (fr_set _ _ _ _) (fun _ _ h => h)⟩
def TakesOut (b p : Nat) (K : Tk) (k : Nat) (op : Int) (v : Value) (L : List Row) (s : ByteArray) (ts : List Tok) (w : World) (e : Ending) (w' : World) : Prop :=
  (isB s ts = true ∧ e = .returned (.bool true) ∧ RdAt w' b p K (k + 1) op v L ∧ Fr (Me p) w w') ∨ (isB s ts = false ∧ e = .returned (.bool false) ∧ w.grownBy w' none)
theorem f_takes {w : World} {b p : Nat} {K : Tk} {k : Nat} {op : Int} {v : Value} {L : List Row} {ts : List Tok} (h : RdAt w b p K k op v L) (ha : Ahead K k ts) (s : ByteArray) :
    Calls Try.prog 51 #[.pointer (some ⟨p, 0, none⟩), .string s] w fun e w' => TakesOut b p K k op v L s ts w e w' := by
  have H := hid h
  have HA := hid ha
  have hk := ha.lt
  have hs := ha.small
  cases hb : isB s ts with
  | true =>
    have HB := hid hb
    clear h ha hb
    go_enter Try.func51, Try.ntmps51
    go_wp2_with fail
    refine (f_is H.out HA.out s).mono ?_
    rintro e w1 ⟨rfl, g1⟩
    have G1 := hid g1
    rw [HB.out]
    obtain ⟨c0, c1, c2, c3⟩ := (H.out.grown g1).cells
    have z1 := (H.out.grown g1).free 1
    clear g1 c0 c2 c3
    go_wp2
    go_ret
    exact .inl ⟨HB.out, rfl, (H.out.step G1.out).1, (H.out.step G1.out).2⟩
  | false =>
    have HB := hid hb
    clear h ha hb
    go_enter Try.func51, Try.ntmps51
    go_wp2_with fail
    refine (f_is H.out HA.out s).mono ?_
    rintro e w1 ⟨rfl, g1⟩
    have G1 := hid g1
    rw [HB.out]
    clear g1
    go_wp2
    go_ret
    exact .inr ⟨HB.out, rfl, G1.out⟩
/-- What a call answers that reads one thing on, without a node: nothing, or what is wrong here. -/
def NeedOut (b p : Nat) (K : Tk) (k : Nat) (op : Int) (v : Value) (L : List Row) (s : ByteArray) (ts : List Tok) (w : World) (e : Ending) (w' : World) : Prop :=
  (isB s ts = true ∧ e = .returned (.tuple #[]) ∧ RdAt w' b p K (k + 1) op v L ∧ Fr (Me p) w w') ∨ (isB s ts = false ∧ e = .panicked (flt (hd ts).2.1 (failC ts)) ∧ w.grownBy w' none)
theorem f_needs {w : World} {b p : Nat} {K : Tk} {k : Nat} {op : Int} {v : Value} {L : List Row} {ts : List Tok} (h : RdAt w b p K k op v L) (ha : Ahead K k ts) (s : ByteArray) :
    Calls Try.prog 66 #[.pointer (some ⟨p, 0, none⟩), .string s] w fun e w' => NeedOut b p K k op v L s ts w e w' := by
  have H := hid h
  have HA := hid ha
  clear h ha
  go_enter Try.func66, Try.ntmps66
  go_wp2_with fail
  refine (f_takes H.out HA.out s).mono ?_
  rintro e w1 (⟨hb, rfl, h1, f1⟩ | ⟨hb, rfl, g1⟩)
  · have HB := hid hb
    have H1 := hid h1
    have F1 := hid f1
    have HA1 := hid (HA.out.next (mean_next hb))
    clear hb h1 f1
    go_wp2_with fail
    refine (f_must H1.out HA1.out true).mono ?_
    rintro e w2 ⟨⟨_, rfl⟩ | ⟨h, _⟩, g2⟩
    · have G2 := hid g2
      clear g2
      go_wp2
      go_end0
      exact .inl ⟨HB.out, rfl, H1.out.grown G2.out, F1.out.trans (.of (S := Me p) G2.out) (fun _ _ h => h)⟩
    · cases h
  · have HB := hid hb
    have G1 := hid g1
    clear hb g1
    go_wp2_with fail
    refine (f_must (H.out.grown G1.out) HA.out false).mono ?_
    rintro e w2 ⟨⟨h, _⟩ | ⟨_, rfl⟩, g2⟩
    · cases h
    · have G2 : Hid (w.grownBy w2 none) := G1.out.trans g2
      clear g2
      go_wp2
      exact ⟨rfl, .inr ⟨HB.out, rfl, G2.out⟩⟩
end Go.Proofs.Ytnimdngiejcljaa
