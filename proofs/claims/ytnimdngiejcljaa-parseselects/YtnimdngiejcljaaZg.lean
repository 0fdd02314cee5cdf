/- Several texts in one: Pc, Pe, Pf, Pg. -/
import Derived.Test.YtnimdngiejcljaaZf
import Derived.Laws.EntriesVeiled
/- Package parse: takes, needs; rows of words. -/
namespace Go.Proofs.Ytnimdngiejcljaa
open Go.RowKit
set_option linter.unusedVariables false
set_option linter.unusedSimpArgs false
set_option maxRecDepth 20000

theorem mean_next {s : ByteArray} {ts : List Tok} (h : isB s ts = true) : (hd ts).1 ≠ 0 := by
  unfold isB meanB at h
  simp only [Bool.and_eq_true, Bool.or_eq_true, decide_eq_true_eq] at h
  omega
/-- A reader behind a token, in a world that has grown. -/
theorem RdAt.step {w w1 : World} {b p : Nat} {K : Tk} {k : Nat} {op : Int} {v : Value} {L : List Row} (h : RdAt w b p K k op v L) (g : w.grownBy w1 none) : RdAt (w1.setCell ⟨p, 1, none⟩ (.int .i64 ((k : Int) + 1))) b p K (k + 1) op v L ∧ Fr (Me p) w (w1.setCell ⟨p, 1, none⟩ (.int .i64 ((k : Int) + 1))) := by
  have := (h.grown g).at (k + 1)
  rw [show ((k + 1 : Nat) : Int) = (k : Int) + 1 by omega] at this
  exact ⟨this, (Fr.of g).trans (fr_set _ _ _ _) (fun _ _ h => h)⟩
def TakesOut (b p : Nat) (K : Tk) (k : Nat) (op : Int) (v : Value) (L : List Row) (s : ByteArray) (ts : List Tok) (w : World) (e : Ending) (w' : World) : Prop :=
  (isB s ts = true ∧ e = .returned (.bool true) ∧ RdAt w' b p K (k + 1) op v L ∧ Fr (Me p) w w') ∨ (isB s ts = false ∧ e = .returned (.bool false) ∧ w.grownBy w' none)
theorem f_takes {w : World} {b p : Nat} {K : Tk} {k : Nat} {op : Int} {v : Value} {L : List Row} {ts : List Tok} (h : RdAt w b p K k op v L) (ha : Ahead K k ts) (s : ByteArray) :
    Calls Try.prog 51 #[.pointer (some ⟨p, 0, none⟩), .string s] w fun e w' => TakesOut b p K k op v L s ts w e w' := by
  have H := hid h
  have HA := hid ha
  have hk := ha.lt
  have hs := ha.small
  cases hb : isB s ts with
  | true =>
    have HB := hid hb
    clear h ha hb
    go_enter Try.func51, Try.ntmps51
    go_wp2_with fail
    refine (f_is H.out HA.out s).mono ?_
    rintro e w1 ⟨rfl, g1⟩
    have G1 := hid g1
    rw [HB.out]
    obtain ⟨c0, c1, c2, c3⟩ := (H.out.grown g1).cells
    have z1 := (H.out.grown g1).free 1
    clear g1 c0 c2 c3
    go_wp2
    go_ret
    exact .inl ⟨HB.out, rfl, (H.out.step G1.out).1, (H.out.step G1.out).2⟩
  | false =>
    have HB := hid hb
    clear h ha hb
    go_enter Try.func51, Try.ntmps51
    go_wp2_with fail
    refine (f_is H.out HA.out s).mono ?_
    rintro e w1 ⟨rfl, g1⟩
    have G1 := hid g1
    rw [HB.out]
    clear g1
    go_wp2
    go_ret
    exact .inr ⟨HB.out, rfl, G1.out⟩
/-- What a call answers that reads one thing on, without a node: nothing, or what is wrong here. -/
def NeedOut (b p : Nat) (K : Tk) (k : Nat) (op : Int) (v : Value) (L : List Row) (s : ByteArray) (ts : List Tok) (w : World) (e : Ending) (w' : World) : Prop :=
  (isB s ts = true ∧ e = .returned (.tuple #[]) ∧ RdAt w' b p K (k + 1) op v L ∧ Fr (Me p) w w') ∨ (isB s ts = false ∧ e = .panicked (flt (hd ts).2.1 (failC ts)) ∧ w.grownBy w' none)
theorem f_needs {w : World} {b p : Nat} {K : Tk} {k : Nat} {op : Int} {v : Value} {L : List Row} {ts : List Tok} (h : RdAt w b p K k op v L) (ha : Ahead K k ts) (s : ByteArray) :
    Calls Try.prog 66 #[.pointer (some ⟨p, 0, none⟩), .string s] w fun e w' => NeedOut b p K k op v L s ts w e w' := by
  have H := hid h
  have HA := hid ha
  clear h ha
  go_enter Try.func66, Try.ntmps66
  go_wp2_with fail
  refine (f_takes H.out HA.out s).mono ?_
  rintro e w1 (⟨hb, rfl, h1, f1⟩ | ⟨hb, rfl, g1⟩)
  · have HB := hid hb
    have H1 := hid h1
    have F1 := hid f1
    have HA1 := hid (HA.out.next (mean_next hb))
    clear hb h1 f1
    go_wp2_with fail
    refine (f_must H1.out HA1.out true).mono ?_
    rintro e w2 ⟨⟨_, rfl⟩ | ⟨h, _⟩, g2⟩
    · have G2 := hid g2
      clear g2
      go_wp2
      go_end0
      exact .inl ⟨HB.out, rfl, H1.out.grown G2.out, F1.out.trans (.of (S := Me p) G2.out) (fun _ _ h => h)⟩
    · cases h
  · have HB := hid hb
    have G1 := hid g1
    clear hb g1
    go_wp2_with fail
    refine (f_must (H.out.grown G1.out) HA.out false).mono ?_
    rintro e w2 ⟨⟨h, _⟩ | ⟨_, rfl⟩, g2⟩
    · cases h
    · have G2 : Hid (w.grownBy w2 none) := G1.out.trans g2
      clear g2
      go_wp2
      exact ⟨rfl, .inr ⟨HB.out, rfl, G2.out⟩⟩
end Go.Proofs.Ytnimdngiejcljaa

/- Package parse: the rows of words; takesOne; label names. -/
namespace Go.Proofs.Ytnimdngiejcljaa
open Go.RowKit
set_option linter.unusedVariables false
set_option linter.unusedSimpArgs false
set_option maxRecDepth 20000

/-- What a call answers that makes a row of words. -/
def RowOut (l : List ByteArray) (w : World) (e : Ending) (w' : World) : Prop := ∃ a c, e = .returned (.slice a l.length c) ∧ SRd strE w' a l ∧ w.grownBy w' none
theorem strE_flat (l : List ByteArray) : strE.flat l = l.map (fun s => Value.string s) := by
  unfold Elem.flat
  induction l with
  | nil => rfl
  | cons x r ih => rw [List.flatMap_cons, ih]; rfl
theorem numE_flat (l : List Int) : numE.flat l = l.map (fun s => Value.int .i64 s) := by
  unfold Elem.flat
  induction l with
  | nil => rfl
  | cons x r ih => rw [List.flatMap_cons, ih]; rfl
theorem row_lit (w : World) (l : List ByteArray) : SRd strE (w.alloc (.cells (l.map (fun s => Value.string s)).toArray 9)) (some ⟨w.heap.size, 0, none⟩) l := by
  refine .inr ⟨_, 0, rfl, fun j v hj => ?_⟩
  rw [Nat.zero_add, cell_of_row _ _ _ _ _ _ (heap_alloc_new w _)]
  rw [strE_flat] at hj
  simpa using hj
theorem num_lit (w : World) (l : List Int) : SRd numE (w.alloc (.cells (l.map (fun s => Value.int .i64 s)).toArray 3)) (some ⟨w.heap.size, 0, none⟩) l := by
  refine .inr ⟨_, 0, rfl, fun j v hj => ?_⟩
  rw [Nat.zero_add, cell_of_row _ _ _ _ _ _ (heap_alloc_new w _)]
  rw [numE_flat] at hj
  simpa using hj
theorem f_ops (w : World) : Calls Try.prog 49 #[] w fun e w' => RowOut opsR w e w' := by
  have HL := hid (row_lit w opsR)
  have HG := hid (World.grownBy_alloc w (.cells (opsR.map (fun s => Value.string s)).toArray 9) none)
  go_enter Try.func49, Try.ntmps49
  go_wp2
  go_ret
  exact ⟨_, _, rfl, HL.out, HG.out⟩
theorem f_grps (w : World) : Calls Try.prog 58 #[] w fun e w' => RowOut grpsR w e w' := by
  have HL := hid (row_lit w grpsR)
  have HG := hid (World.grownBy_alloc w (.cells (grpsR.map (fun s => Value.string s)).toArray 9) none)
  go_enter Try.func58, Try.ntmps58
  go_wp2
  go_ret
  exact ⟨_, _, rfl, HL.out, HG.out⟩
theorem f_funcs (w : World) : Calls Try.prog 75 #[] w fun e w' => RowOut funcsR w e w' := by
  have HL := hid (row_lit w funcsR)
  have HG := hid (World.grownBy_alloc w (.cells (funcsR.map (fun s => Value.string s)).toArray 9) none)
  go_enter Try.func75, Try.ntmps75
  go_wp2
  go_ret
  exact ⟨_, _, rfl, HL.out, HG.out⟩
theorem f_aggs (w : World) : Calls Try.prog 77 #[] w fun e w' => RowOut aggsR w e w' := by
  have HL := hid (row_lit w aggsR)
  have HG := hid (World.grownBy_alloc w (.cells (aggsR.map (fun s => Value.string s)).toArray 9) none)
  go_enter Try.func77, Try.ntmps77
  go_wp2
  go_ret
  exact ⟨_, _, rfl, HL.out, HG.out⟩
theorem f_kinds (w : World) : Calls Try.prog 88 #[] w fun e w' => RowOut kindsR w e w' := by
  have HL := hid (row_lit w kindsR)
  have HG := hid (World.grownBy_alloc w (.cells (kindsR.map (fun s => Value.string s)).toArray 9) none)
  go_enter Try.func88, Try.ntmps88
  go_wp2
  go_ret
  exact ⟨_, _, rfl, HL.out, HG.out⟩
/-- What takesOne answers. -/
def OneOut (b p : Nat) (K : Tk) (k : Nat) (op : Int) (v : Value) (L : List Row) (row : List ByteArray) (may : List Int) (ts : List Tok) (w : World) (e : Ending) (w' : World) : Prop :=
  e = .returned (.int .i64 (takeN row may ts)) ∧ ∃ k', RdAt w' b p K k' op v L ∧ Ahead K k' (takeR row may ts) ∧ k ≤ k' ∧ (takeN row may ts ≠ 0 → k < k') ∧ Fr (Me p) w w'
theorem numIn_next {row : List ByteArray} {q : Tok} (h : numIn row q ≠ 0) : q.1 ≠ 0 := by
  unfold numIn meanB at h
  intro e
  rw [e] at h
  exact h rfl
theorem f_one {w : World} {b p : Nat} {K : Tk} {k : Nat} {op : Int} {v : Value} {L : List Row} {ts : List Tok} (h : RdAt w b p K k op v L) (ha : Ahead K k ts) (a a2 : Option Addr) (c c2 : Nat) (row : List ByteArray) (may : List Int) (hr : SRd strE w a row) (hl : row.length ≤ 1000) (hm : SRd numE w a2 may) (hl2 : may.length ≤ 1000) (h0 : may.contains 0 = false) :
    Calls Try.prog 48 #[.pointer (some ⟨p, 0, none⟩), .slice a row.length c, .slice a2 may.length c2] w fun e w' => OneOut b p K k op v L row may ts w e w' := by
  have H := hid h
  have HA := hid ha
  have HR := hid hr
  have HM := hid hm
  have hk := ha.lt
  have hs := ha.small
  have H0 := hid h0
  have HN := hid (numIn_next (row := row) (q := hd ts))
  clear h ha hr hm h0
  cases hc : may.contains (numIn row (hd ts)) with
  | true =>
    have HC := hid hc
    have hne : numIn row (hd ts) ≠ 0 := fun e => by rw [e, H0.out] at hc; cases hc
    have HNE := hid hne
    clear hc hne
    go_enter Try.func48, Try.ntmps48
    go_wp2_with fail
    refine (f_here H.out HA.out).mono ?_
    rintro e w1 ⟨rfl, g1⟩
    have G1 := hid g1
    clear g1
    go_wp2_with fail
    refine (f_numIn a c row (hd ts) w1 (HR.out.grown G1.out (by simp)) hl).mono ?_
    rintro e w2 ⟨rfl, g2⟩
    have G2 : Hid (w.grownBy w2 none) := G1.out.trans g2
    clear g2
    go_wp2_with fail
    refine (f_contains a2 c2 may _ w2 (HM.out.grown G2.out (by simp)) hl2).mono ?_
    rintro e w3 ⟨rfl, rfl⟩
    rw [HC.out]
    obtain ⟨c0, c1, c2, c3⟩ := (H.out.grown G2.out).cells
    have z1 := (H.out.grown G2.out).free 1
    clear c0 c2 c3
    go_wp2
    go_ret
    unfold OneOut takeN takeR
    simp only [HC.out, if_true]
    exact ⟨rfl, k + 1, (H.out.step G2.out).1, HA.out.next (HN.out HNE.out), by omega, by omega, (H.out.step G2.out).2⟩
  | false =>
    have HC := hid hc
    clear hc
    go_enter Try.func48, Try.ntmps48
    go_wp2_with fail
    refine (f_here H.out HA.out).mono ?_
    rintro e w1 ⟨rfl, g1⟩
    have G1 := hid g1
    clear g1
    go_wp2_with fail
    refine (f_numIn a c row (hd ts) w1 (HR.out.grown G1.out (by simp)) hl).mono ?_
    rintro e w2 ⟨rfl, g2⟩
    have G2 : Hid (w.grownBy w2 none) := G1.out.trans g2
    clear g2
    go_wp2_with fail
    refine (f_contains a2 c2 may _ w2 (HM.out.grown G2.out (by simp)) hl2).mono ?_
    rintro e w3 ⟨rfl, rfl⟩
    rw [HC.out]
    go_wp2
    go_ret
    unfold OneOut takeN takeR
    simp only [HC.out, Bool.false_eq_true, if_false]
    exact ⟨rfl, k, H.out.grown G2.out, HA.out, Nat.le_refl _, fun h => absurd rfl h, .of G2.out⟩
end Go.Proofs.Ytnimdngiejcljaa

/- Package names: a label's name. -/
namespace Go.Proofs.Ytnimdngiejcljaa
open Go.RowKit
set_option linter.unusedVariables false
set_option linter.unusedSimpArgs false
set_option maxRecDepth 20000

theorem f_labByte (c : Int) (w : World) : Calls Try.prog 70 #[.int .u8 c] w fun e w' => e = .returned (.bool (labC c)) ∧ w = w' := by
  unfold labC
  cases hl : letB c with
  | true =>
    have HL : Hid (∀ w, Calls Try.prog 39 #[.int .u8 c] w fun e w' => e = .returned (.bool true) ∧ w = w') := fun w => f_letter c true w hl
    clear hl
    go_enter Try.func70, Try.ntmps70
    go_wp2_with (go_at_call 39; refine (HL.out _).mono ?_; rintro e w1 ⟨rfl, rfl⟩)
    go_ret
    exact ⟨rfl, rfl⟩
  | false =>
    have HL : Hid (∀ w, Calls Try.prog 39 #[.int .u8 c] w fun e w' => e = .returned (.bool false) ∧ w = w') := fun w => f_letter c false w hl
    have HD : Hid (∀ w, Calls Try.prog 22 #[.int .u8 c] w fun e w' => e = .returned (.bool (digB c)) ∧ w = w') := fun w => f_digit c (digB c) w rfl
    clear hl
    generalize digB c = R at HD ⊢
    go_enter Try.func70, Try.ntmps70
    go_wp2_with fail
    refine (HL.out _).mono ?_
    rintro e w1 ⟨rfl, rfl⟩
    go_wp2_with fail
    refine (HD.out _).mono ?_
    rintro e w1 ⟨rfl, rfl⟩
    go_wp2
    go_ret
    exact ⟨ret_bool (by simp), rfl⟩
/-- How far a name has been looked at. -/
def LabAt (s : ByteArray) (k : Nat) (R : Bool) : Prop := ((sInts s).drop k).all labC = R
theorem LabAt.next {s : ByteArray} {k : Nat} {R : Bool} (h : LabAt s k R) (hk : k < s.size) : (labC (byteAt s k) && ((sInts s).drop (k + 1)).all labC) = R := by
  unfold LabAt at h
  rw [drop_byte s k hk, List.all_cons] at h
  exact h
def isNameB (s : ByteArray) : Bool := decide (1 ≤ s.size) && decide (s.size ≤ 64) && (sInts s).all labC
set_option maxHeartbeats 1000000 in
theorem g_isName (s : ByteArray) (w : World) :
    Calls Try.prog 69 #[.string s, .int .i64 64, .func (.func 70) #[] #[]] w fun e w' => e = .returned (.bool (isNameB s)) ∧ w = w' := by
  by_cases h1 : s.size < 1
  · have e : isNameB s = false := by unfold isNameB; rw [decide_eq_false (by omega : ¬ 1 ≤ s.size)]; simp
    rw [e]
    have q1 : decide ((s.size : Int) < 1) = true := by simp; omega
    clear e
    go_enter Try.func69, Try.ntmps69
    go_wp2
    go_ret
    exact ⟨rfl, rfl⟩
  · by_cases h2 : 64 < s.size
    · have e : isNameB s = false := by unfold isNameB; rw [decide_eq_false (by omega : ¬ s.size ≤ 64)]; simp
      rw [e]
      have q1 : decide ((s.size : Int) < 1) = false := by simp; omega
      have q2 : decide ((64 : Int) < (s.size : Int)) = true := by simp; omega
      clear e
      go_enter Try.func69, Try.ntmps69
      go_wp2
      go_ret
      exact ⟨rfl, rfl⟩
    · have e : isNameB s = (sInts s).all labC := by
        unfold isNameB
        rw [decide_eq_true (by omega : 1 ≤ s.size), decide_eq_true (by omega : s.size ≤ 64)]
        simp
      rw [e]
      have H0 : Hid (LabAt s 0 ((sInts s).all labC)) := by show LabAt _ _ _; unfold LabAt; rfl
      clear e
      generalize (sInts s).all labC = R at H0 ⊢
      have q1 : decide ((s.size : Int) < 1) = false := by simp; omega
      have q2 : decide ((64 : Int) < (s.size : Int)) = false := by simp; omega
      go_enter Try.func69, Try.ntmps69
      go_wp2
      go_loop [19] (fun i => ∃ k : Nat, k ≤ s.size ∧ i = .int .i64 k ∧ LabAt s k R) (fun i => s.size - (intOf i).toNat)
      case atStart => exact ⟨0, Nat.zero_le _, rfl, H0.out⟩
      case round =>
        obtain ⟨k, hk, rfl, hn⟩ := hrel
        have HN : Hid (LabAt s k R) := hn
        clear hn H0
        by_cases hlt : k < s.size
        · have hidx := idx9 s k hlt
          have HNx : Hid (_ = R) := HN.out.next hlt
          have hki : (k : Int) < (s.size : Int) := by omega
          generalize byteAt s k = c at hidx HNx
          cases hc : labC c with
          | true =>
            have HS : Hid (LabAt s (k + 1) R) := by have h := HNx.out; rw [hc, Bool.true_and] at h; exact h
            have HC : Hid (∀ w, Calls Try.prog 70 #[.int .u8 c] w fun e w' => e = .returned (.bool true) ∧ w = w') := fun w => by rw [← hc]; exact f_labByte c w
            clear HNx hc
            go_wp2_with (go_at_call 70; refine (HC.out _).mono ?_; rintro e w1 ⟨rfl, rfl⟩)
            go_round
            case rel => exact ⟨k + 1, by omega, by go_num, HS.out⟩
            case measure => simp [intOf]; omega
          | false =>
            have HS : Hid (false = R) := by have h := HNx.out; rw [hc, Bool.false_and] at h; exact h
            have HC : Hid (∀ w, Calls Try.prog 70 #[.int .u8 c] w fun e w' => e = .returned (.bool false) ∧ w = w') := fun w => by rw [← hc]; exact f_labByte c w
            clear HNx hc
            go_wp2_with (go_at_call 70; refine (HC.out _).mono ?_; rintro e w1 ⟨rfl, rfl⟩)
            go_ret
            exact ⟨ret_bool HS.out, rfl⟩
        · have HS : Hid (true = R) := by
            have h := HN.out
            unfold LabAt at h
            rw [List.drop_eq_nil_of_le (by rw [sInts_len]; omega), List.all_nil] at h
            exact h
          have hki : ¬ (k : Int) < (s.size : Int) := by omega
          go_wp2
          go_ret
          exact ⟨ret_bool HS.out, rfl⟩
theorem f_ofLabel (s : ByteArray) (w : World) : Calls Try.prog 67 #[.string s] w fun e w' => e = .returned (.bool (nameB s)) ∧ w = w' := by
  have e0 : nameB s = (isNameB s && !digB (byteAt s 0)) := rfl
  rw [e0]
  cases hn : isNameB s with
  | true =>
    have HC : Hid (∀ w, Calls Try.prog 69 #[.string s, .int .i64 64, .func (.func 70) #[] #[]] w fun e w' => e = .returned (.bool true) ∧ w = w') := fun w => by rw [← hn]; exact g_isName s w
    have hz : 0 < s.size := by
      unfold isNameB at hn
      simp only [Bool.and_eq_true, decide_eq_true_eq] at hn
      omega
    have HD : Hid (∀ w, Calls Try.prog 22 #[.int .u8 (byteAt s 0)] w fun e w' => e = .returned (.bool (digB (byteAt s 0))) ∧ w = w') := fun w => f_digit _ _ w rfl
    have hidx : ∀ w, (Instr.index 9 (.string s) (.int .i64 0)).run Try.prog w = .ok (.int .u8 (byteAt s 0)) w := fun w => idx9 s 0 hz w
    clear hn e0
    generalize byteAt s 0 = c at HD hidx ⊢
    generalize digB c = R at HD ⊢
    go_enter Try.func67, Try.ntmps67
    go_wp2_with fail
    refine (HC.out _).mono ?_
    rintro e w1 ⟨rfl, rfl⟩
    go_wp2_with fail
    refine (HD.out _).mono ?_
    rintro e w1 ⟨rfl, rfl⟩
    go_wp2
    go_ret
    exact ⟨ret_bool (by simp), rfl⟩
  | false =>
    have HC : Hid (∀ w, Calls Try.prog 69 #[.string s, .int .i64 64, .func (.func 70) #[] #[]] w fun e w' => e = .returned (.bool false) ∧ w = w') := fun w => by rw [← hn]; exact g_isName s w
    clear hn e0
    go_enter Try.func67, Try.ntmps67
    go_wp2_with fail
    refine (HC.out _).mono ?_
    rintro e w1 ⟨rfl, rfl⟩
    go_wp2
    go_ret
    exact ⟨ret_bool (by simp), rfl⟩
/-- What a call answers that reads something on, without a node. -/
def ReadOut {α : Type} (b p : Nat) (K : Tk) (k : Nat) (op : Int) (v : Value) (L : List Row) (R : Rs α) (ret : α → Value) (w : World) (e : Ending) (w' : World) : Prop :=
  match R with
  | .ok a r => e = .returned (ret a) ∧ ∃ k', RdAt w' b p K k' op v L ∧ Ahead K k' r ∧ k < k' ∧ Fr (Me p) w w'
  | .bad q c => e = .panicked (flt q c) ∧ Fr (Me p) w w'
  | .out => False
/-- labelName. -/
theorem f_lname {w : World} {b p : Nat} {K : Tk} {k : Nat} {op : Int} {v : Value} {L : List Row} {ts : List Tok} (h : RdAt w b p K k op v L) (ha : Ahead K k ts) :
    Calls Try.prog 61 #[.pointer (some ⟨p, 0, none⟩)] w fun e w' => ReadOut b p K k op v L (lname ts) .string w e w' := by
  have H := hid h
  have HA := hid ha
  have hk := ha.lt
  have hs := ha.small
  have HB := hid (fun W : World => heap_alloc_new W (.cells #[.int .i64 (hd ts).1, .int .i64 (hd ts).2.1, .string (hd ts).2.2.1, .int .i64 (hd ts).2.2.2] 52))
  have HN := hid (f_ofLabel (hd ts).2.2.1)
  have HC := hid (ha.next)
  unfold lname
  clear h ha
  by_cases h3 : (hd ts).1 = 3
  · have q0 : ((hd ts).1 == 3) = true := by simpa using h3
    have H3 := hid h3
    cases hb : nameB (hd ts).2.2.1 with
    | true =>
      rw [hb] at HN
      rw [decide_eq_true h3, if_pos (by rfl)]
      clear hb h3
      go_enter Try.func61, Try.ntmps61
      go_wp2_with fail
      refine (f_here H.out HA.out).mono ?_
      rintro e w1 ⟨rfl, g1⟩
      have G1 : Hid (w.grownBy (w1.alloc (.cells #[.int .i64 (hd ts).1, .int .i64 (hd ts).2.1, .string (hd ts).2.2.1, .int .i64 (hd ts).2.2.2] 52)) none) := g1.trans (World.grownBy_alloc _ _ none)
      have G1' := hid g1
      obtain ⟨z0, z1, z2, z3⟩ := cell4 (HB.out w1)
      clear g1 z1 z3
      unfold tkV
      go_wp2_with fail
      refine (HN.out _).mono ?_
      rintro e w2 ⟨rfl, rfl⟩
      go_wp2_with fail
      refine (f_must (H.out.grown G1.out) HA.out true).mono ?_
      rintro e w2 ⟨⟨_, rfl⟩ | ⟨h, _⟩, g2⟩
      · have hc2 := g2.cell z2 (by simp)
        have G2 : Hid (w.grownBy w2 none) := G1.out.trans g2
        obtain ⟨c0, c1, c2, c3⟩ := (H.out.grown G2.out).cells
        have z1 := (H.out.grown G2.out).free 1
        have hne : p ≠ w1.heap.size := by have := H.out.lt; have := G1'.out.size; omega
        clear g2 c0 c2 c3 z0 z2
        go_wp2
        go_ret
        exact ⟨rfl, k + 1, (H.out.step G2.out).1, HC.out (by rw [H3.out]; decide), by omega, (H.out.step G2.out).2⟩
      · cases h
    | false =>
      rw [hb] at HN
      rw [decide_eq_true h3, if_neg (by simp)]
      clear hb h3
      go_enter Try.func61, Try.ntmps61
      go_wp2_with fail
      refine (f_here H.out HA.out).mono ?_
      rintro e w1 ⟨rfl, g1⟩
      have G1 : Hid (w.grownBy (w1.alloc (.cells #[.int .i64 (hd ts).1, .int .i64 (hd ts).2.1, .string (hd ts).2.2.1, .int .i64 (hd ts).2.2.2] 52)) none) := g1.trans (World.grownBy_alloc _ _ none)
      obtain ⟨z0, z1, z2, z3⟩ := cell4 (HB.out w1)
      clear g1 z1 z3
      unfold tkV
      go_wp2_with fail
      refine (HN.out _).mono ?_
      rintro e w2 ⟨rfl, rfl⟩
      go_wp2_with fail
      refine (f_must (H.out.grown G1.out) HA.out false).mono ?_
      rintro e w2 ⟨⟨h, _⟩ | ⟨_, rfl⟩, g2⟩
      · cases h
      · have G2 : Hid (w.grownBy w2 none) := G1.out.trans g2
        clear g2
        go_wp2
        exact ⟨rfl, rfl, .of G2.out⟩
  · have q0 : ((hd ts).1 == 3) = false := by simpa using h3
    rw [decide_eq_false h3, if_neg (by simp)]
    clear h3
    go_enter Try.func61, Try.ntmps61
    go_wp2_with fail
    refine (f_here H.out HA.out).mono ?_
    rintro e w1 ⟨rfl, g1⟩
    have G1 : Hid (w.grownBy (w1.alloc (.cells #[.int .i64 (hd ts).1, .int .i64 (hd ts).2.1, .string (hd ts).2.2.1, .int .i64 (hd ts).2.2.2] 52)) none) := g1.trans (World.grownBy_alloc _ _ none)
    obtain ⟨z0, z1, z2, z3⟩ := cell4 (HB.out w1)
    clear g1 z1 z3
    unfold tkV
    go_wp2_with fail
    refine (f_must (H.out.grown G1.out) HA.out false).mono ?_
    rintro e w2 ⟨⟨h, _⟩ | ⟨_, rfl⟩, g2⟩
    · cases h
    · have G2 : Hid (w.grownBy w2 none) := G1.out.trans g2
      clear g2
      go_wp2
      exact ⟨rfl, rfl, .of G2.out⟩
end Go.Proofs.Ytnimdngiejcljaa

/- Package match: Check. -/
namespace Go.Proofs.Ytnimdngiejcljaa
open Go.RowKit
set_option linter.unusedVariables false
set_option linter.unusedSimpArgs false
set_option maxRecDepth 20000

def qOf (k : Int) : Value := if k = 1 then .func (.func 92) #[] #[] else if k = 2 then .func (.func 93) #[] #[] else if k = 3 then .func (.methodOf 103 "tidewrack/match.like") #[] #[] else if k = 4 then .func (.func 95) #[] #[] else .nilFunc
def row5 : Array Value := #[.nilFunc, .func (.func 92) #[] #[], .func (.func 93) #[] #[], .func (.methodOf 103 "tidewrack/match.like") #[] #[], .func (.func 95) #[] #[]]
theorem size98 : (Try.prog.info? 98).map (·.size) = some 5 := by kernel_rfl
theorem m_questions (w : World) : Calls Try.prog 91 #[] w fun e w' => e = .returned (.agg #[.nilFunc, .func (.func 92) #[] #[], .func (.func 93) #[] #[], .func (.methodOf 103 "tidewrack/match.like") #[] #[], .func (.func 95) #[] #[]]) ∧ w.alloc (.cells row5 98) = w' := by
  go_enter Try.func91, Try.ntmps91
  go_wp2
  refine bodyPost_ret (v := .agg #[.nilFunc, .func (.func 92) #[] #[], .func (.func 93) #[] #[], .func (.methodOf 103 "tidewrack/match.like") #[] #[], .func (.func 95) #[] #[]]) (results_cell_row Try.results91 _ _ w.heap.size 98 _ (0, 0) _ rfl (heap_alloc_new w _) Try.underlying98 rfl size98) rfl ⟨rfl, rfl⟩
set_option maxHeartbeats 400000 in
theorem m_question (k : Int) (w : World) : Calls Try.prog 90 #[.int .i64 k] w fun e w' => e = .returned (qOf k) ∧ w.grownBy w' none := by
  have HQ : Hid (∀ w, Calls Try.prog 91 #[] w fun e w' => e = .returned (.agg #[.nilFunc, .func (.func 92) #[] #[], .func (.func 93) #[] #[], .func (.methodOf 103 "tidewrack/match.like") #[] #[], .func (.func 95) #[] #[]]) ∧ w.alloc (.cells row5 98) = w') := m_questions
  have hg : ∀ o, w.grownBy ((w.alloc (.cells row5 98)).alloc o) none := fun o => (World.grownBy_alloc w _ none).trans (World.grownBy_alloc _ _ none)
  by_cases h1 : k < 0
  · have e : qOf k = .nilFunc := by unfold qOf; rw [if_neg (by omega), if_neg (by omega), if_neg (by omega), if_neg (by omega)]
    rw [e]
    go_enter Try.func90, Try.ntmps90
    go_wp2_with (go_at_call 91; refine (HQ.out _).mono ?_; rintro e w' ⟨rfl, rfl⟩)
    go_ret
    exact ⟨rfl, hg _⟩
  · by_cases h5 : 5 ≤ k
    · have e : qOf k = .nilFunc := by unfold qOf; rw [if_neg (by omega), if_neg (by omega), if_neg (by omega), if_neg (by omega)]
      rw [e]
      go_enter Try.func90, Try.ntmps90
      go_wp2_with (go_at_call 91; refine (HQ.out _).mono ?_; rintro e w' ⟨rfl, rfl⟩)
      go_ret
      exact ⟨rfl, hg _⟩
    · have hk : k = 0 ∨ k = 1 ∨ k = 2 ∨ k = 3 ∨ k = 4 := by omega
      clear h1 h5
      rcases hk with rfl | rfl | rfl | rfl | rfl
      all_goals
        go_enter Try.func90, Try.ntmps90
        go_wp2_with (go_at_call 91; refine (HQ.out _).mono ?_; rintro e w' ⟨rfl, rfl⟩)
        go_ret
        exact ⟨rfl, hg _⟩
theorem neq_func (f : Fn) (w : World) : (binOp BinOp.neq 96 (Value.func f #[] #[]) Value.nilFunc).run Try.prog w = .ok (.bool true) w := by kernel_rfl
theorem neq_nil (w : World) : (binOp BinOp.neq 96 Value.nilFunc Value.nilFunc).run Try.prog w = .ok (.bool false) w := by kernel_rfl
theorem q_nil {k : Int} (h : k < 1 ∨ 4 < k) : qOf k = .nilFunc := by unfold qOf; rw [if_neg (by omega), if_neg (by omega), if_neg (by omega), if_neg (by omega)]
theorem q_func {k : Int} (h : ¬ (k < 1 ∨ 4 < k)) : ∃ f, qOf k = .func f #[] #[] := by
  have hk : k = 1 ∨ k = 2 ∨ k = 3 ∨ k = 4 := by omega
  rcases hk with rfl | rfl | rfl | rfl
  · exact ⟨_, rfl⟩
  · exact ⟨_, rfl⟩
  · exact ⟨_, rfl⟩
  · exact ⟨_, rfl⟩
theorem cell3r {w : World} {g : Nat} {x y z : Value} {t : TypeId} (h : w.heap[g]? = some (.cells #[x, y, z] t (0, 0))) : w.cell? ⟨g, 0, none⟩ = some x ∧ w.cell? ⟨g, 1, none⟩ = some y ∧ w.cell? ⟨g, 2, none⟩ = some z :=
  ⟨by rw [cell_of_row _ _ _ _ _ _ h]; rfl, by rw [cell_of_row _ _ _ _ _ _ h]; rfl, by rw [cell_of_row _ _ _ _ _ _ h]; rfl⟩
theorem bad_kind {k : Int} {n v : ByteArray} (h : k < 1 ∨ 4 < k) : matB (k, n, v) = false := by
  unfold matB
  rcases h with h | h
  · rw [decide_eq_false (by omega : ¬ 1 ≤ k)]; rfl
  · rw [decide_eq_false (by omega : ¬ k ≤ 4)]; simp
theorem mat_rest {k : Int} {n v : ByteArray} (h : ¬ (k < 1 ∨ 4 < k)) : matB (k, n, v) = (nameB n && decide (v.size ≤ 256)) := by
  unfold matB
  rw [decide_eq_true (by omega : 1 ≤ k), decide_eq_true (by omega : k ≤ 4)]; simp
set_option maxHeartbeats 400000 in
theorem m_form (m : Mt) (w : World) : Calls Try.prog 89 #[matV m] w fun e w' => e = .returned (.bool (matB m)) ∧ w.grownBy w' none := by
  obtain ⟨k, n, v⟩ := m
  have HQ : Hid (∀ w, Calls Try.prog 90 #[.int .i64 k] w fun e w' => e = .returned (qOf k) ∧ w.grownBy w' none) := m_question k
  have HN : Hid (∀ w, Calls Try.prog 67 #[.string n] w fun e w' => e = .returned (.bool (nameB n)) ∧ w = w') := f_ofLabel n
  have f1 := neq_func
  have f2 := neq_nil
  have HB : Hid ((w.alloc (.cells #[.int .i64 k, .string n, .string v] 44)).heap[w.heap.size]? = some (.cells #[.int .i64 k, .string n, .string v] 44)) := heap_alloc_new w _
  unfold matV
  by_cases hk : k < 1 ∨ 4 < k
  · rw [q_nil hk] at HQ
    rw [bad_kind hk]
    clear hk
    go_enter Try.func89, Try.ntmps89
    go_wp2_with fail
    refine (HQ.out _).mono ?_
    rintro e w1 ⟨rfl, hg⟩
    have HG : Hid (w.grownBy w1 none) := (World.grownBy_alloc w _ none).trans hg
    clear hg
    go_wp2
    go_ret
    exact ⟨rfl, HG.out⟩
  · obtain ⟨f, hf⟩ := q_func hk
    rw [hf] at HQ
    rw [mat_rest hk]
    clear hk hf
    generalize nameB n = bb at HN ⊢
    cases bb with
    | false =>
      go_enter Try.func89, Try.ntmps89
      go_wp2_with fail
      refine (HQ.out _).mono ?_
      rintro e w1 ⟨rfl, hg⟩
      have HG : Hid (w.grownBy w1 none) := (World.grownBy_alloc w _ none).trans hg
      have hb1 := (hg.block w.heap.size (by simp) (by simp)).trans HB.out
      obtain ⟨c0, c1, c2⟩ := cell3r hb1
      clear hg hb1 c0 c2
      go_wp2_with fail
      refine (HN.out _).mono ?_
      rintro e w2 ⟨rfl, rfl⟩
      go_wp2
      go_ret
      exact ⟨rfl, HG.out⟩
    | true =>
      have q : (decide (v.size ≤ 256)) = decide ((v.size : Int) ≤ 256) := by
        by_cases h : v.size ≤ 256
        · rw [decide_eq_true h, decide_eq_true (by omega)]
        · rw [decide_eq_false h, decide_eq_false (by omega)]
      have HR := hid q
      clear q
      go_enter Try.func89, Try.ntmps89
      go_wp2_with fail
      refine (HQ.out _).mono ?_
      rintro e w1 ⟨rfl, hg⟩
      have HG : Hid (w.grownBy w1 none) := (World.grownBy_alloc w _ none).trans hg
      have hb1 := (hg.block w.heap.size (by simp) (by simp)).trans HB.out
      obtain ⟨c0, c1, c2⟩ := cell3r hb1
      clear hg hb1 c0
      go_wp2_with fail
      refine (HN.out _).mono ?_
      rintro e w2 ⟨rfl, rfl⟩
      go_wp2
      go_ret
      exact ⟨ret_bool (by rw [HR.out]; simp), HG.out⟩
theorem mat_cells {w : World} {b off i : Nat} {l : List Mt} {m : Mt} (h : SRd matE w (some ⟨b, off, none⟩) l) (hq : l[i]? = some m) : w.cell? ⟨b, off + i * 3, none⟩ = some (.int .i64 m.1) ∧ w.cell? ⟨b, off + i * 3 + 1, none⟩ = some (.string m.2.1) ∧ w.cell? ⟨b, off + i * 3 + 2, none⟩ = some (.string m.2.2) := by
  obtain ⟨b', off', e, hc⟩ := h.at (by have := (List.getElem?_eq_some_iff.1 hq).1; omega)
  cases e
  refine ⟨hc i m 0 _ hq rfl, ?_, ?_⟩
  · rw [Nat.add_assoc]; exact hc i m 1 _ hq rfl
  · rw [Nat.add_assoc]; exact hc i m 2 _ hq rfl
/-- Check: 0 just if these matchers may be. -/
theorem m_check (a : Option Addr) (c : Nat) (l : List Mt) (w : World) (h : SRd matE w a l) (hl : l.length ≤ 1000000) :
    Calls Try.prog 87 #[.slice a l.length c] w fun e w' => ∃ r : Int, e = .returned (.int .i64 r) ∧ Hid (decide (r = 0) = matsB l) ∧ w.grownBy w' none := by
  have H := hid h
  clear h
  by_cases h8 : 8 < l.length
  · have HB : Hid (matsB l = false) := by show _ = _; unfold matsB; rw [decide_eq_false (by omega)]; rfl
    have q0 : decide ((8 : Int) < (l.length : Int)) = true := by simp; omega
    go_enter Try.func87, Try.ntmps87
    go_wp2
    go_ret
    exact ⟨41, rfl, by show _ = _; rw [HB.out]; rfl, World.grownBy.refl _ _⟩
  · have HB : Hid (matsB l = l.all matB) := by show _ = _; unfold matsB; rw [decide_eq_true (by omega)]; rfl
    have q0 : decide ((8 : Int) < (l.length : Int)) = false := by simp; omega
    go_enter Try.func87, Try.ntmps87
    go_wp2
    go_loopw [10] (fun t10 wr => ∃ k : Nat, k ≤ l.length ∧ t10 = .int .i64 (k : Int) ∧ w.grownBy wr none ∧ (l.take k).all matB = true) (fun t10 _ => l.length - (intOf t10).toNat)
    case atStart => exact ⟨0, Nat.zero_le _, rfl, World.grownBy.refl _ _, by simp⟩
    case round =>
      obtain ⟨k, hk, rfl, hg, hj⟩ := hrel
      have HJ := hid hj
      have HG := hid hg
      clear hj hg
      by_cases hlt : k < l.length
      · have hki : (k : Int) < (l.length : Int) := by omega
        obtain ⟨x, hx⟩ : ∃ x, l[k]? = some x := ⟨_, List.getElem?_eq_getElem hlt⟩
        obtain ⟨bb, oo, ea, _⟩ := H.out.at (by omega)
        obtain ⟨z0, z1, z2⟩ := mat_cells (i := k) (by rw [← ea]; exact H.out.grown HG.out (by simp)) hx
        have HX := hid hx
        have HF := hid (m_form x)
        have HT : Hid ((l.take (k + 1)).all matB = ((l.take k).all matB && matB x)) := by
          show _ = _
          rw [List.take_add_one, hx]
          simp
        have HM : Hid (l.all matB = true → matB x = true) := fun h => by
          rw [List.all_eq_true] at h
          exact h x (List.mem_of_getElem? hx)
        obtain ⟨m1, m2, m3⟩ := x
        subst ea
        unfold matV at HF
        simp only at z0 z1 z2
        have G1 : Hid (w.grownBy (wr.alloc (.cells #[.int .i64 m1, .string m2, .string m3] 44)) none) := HG.out.trans (World.grownBy_alloc _ _ none)
        clear hx
        cases hb : matB (m1, m2, m3) with
        | true =>
          rw [hb] at HF
          have HN : Hid ((l.take (k + 1)).all matB = true) := by show _ = _; rw [HT.out, HJ.out, hb]; rfl
          clear hb
          go_wp2_with fail
          refine (HF.out _).mono ?_
          rintro e w2 ⟨rfl, g2⟩
          have G2 : Hid (w.grownBy w2 none) := G1.out.trans g2
          clear g2
          go_wp2
          go_roundw
          case rel => exact ⟨k + 1, by omega, by go_num, G2.out, HN.out⟩
          case measure => simp [intOf]; omega
        | false =>
          rw [hb] at HF
          have HN : Hid (matsB l = false) := by
            show _ = _
            rw [HB.out, Bool.eq_false_iff]
            intro h
            rw [HM.out h] at hb
            cases hb
          clear hb
          go_wp2_with fail
          refine (HF.out _).mono ?_
          rintro e w2 ⟨rfl, g2⟩
          have G2 : Hid (w.grownBy w2 none) := G1.out.trans g2
          clear g2
          go_wp2
          go_ret
          exact ⟨40, rfl, by show _ = _; rw [HN.out]; rfl, G2.out⟩
      · have hki : ¬ (k : Int) < (l.length : Int) := by omega
        have HN : Hid (matsB l = true) := by
          show _ = _
          rw [HB.out]
          have := HJ.out
          rw [List.take_of_length_le (by omega)] at this
          exact this
        go_wp2
        go_ret
        exact ⟨0, rfl, by show _ = _; rw [HN.out]; rfl, HG.out⟩
end Go.Proofs.Ytnimdngiejcljaa

