/- Package names: a label's name. -/
import Derived.Test.YtnimdngiejcljaaPe
namespace Go.Proofs.Ytnimdngiejcljaa
open Go.RowKit
set_option linter.unusedVariables false
set_option linter.unusedSimpArgs false
set_option maxRecDepth 20000

theorem f_labByte (c : Int) (w : World) : Calls Try.prog 70 #[.int .u8 c] w fun e w' => e = .returned (.bool (labC c)) ∧ w = w' := by
  unfold labC
  cases hl : letB c with
  | true =>
    have HL : Hid (∀ w, Calls Try.prog 39 #[.int .u8 c] w fun e w' => e = .returned (.bool true) ∧ w = w') := fun w => f_letter c true w hl
    clear hl
    go_enter Try.func70, Try.ntmps70
    go_wp2_with (go_at_call 39; refine (HL.out _).mono ?_; rintro e w1 ⟨rfl, rfl⟩)
    go_ret
    exact ⟨rfl, rfl⟩
  | false =>
    have HL : Hid (∀ w, Calls Try.prog 39 #[.int .u8 c] w fun e w' => e = .returned (.bool false) ∧ w = w') := fun w => f_letter c false w hl
    have HD : Hid (∀ w, Calls Try.prog 22 #[.int .u8 c] w fun e w' => e = .returned (.bool (digB c)) ∧ w = w') := fun w => f_digit c (digB c) w rfl
    clear hl
    generalize digB c = R at HD ⊢
    go_enter Try.func70, Try.ntmps70
    go_wp2_with fail
    refine (HL.out _).mono ?_
    rintro e w1 ⟨rfl, rfl⟩
    go_wp2_with fail
    refine (HD.out _).mono ?_
    rintro e w1 ⟨rfl, rfl⟩
    go_wp2
    go_ret
    exact ⟨ret_bool (by simp), rfl⟩
/-- How far a name has been looked at. -/
def LabAt (s : ByteArray) (k : Nat) (R : Bool) : Prop := ((sInts s).drop k).all labC = R
theorem LabAt.next {s : ByteArray} {k : Nat} {R : Bool} (h : LabAt s k R) (hk : k < s.size) : (labC (byteAt s k) && ((sInts s).drop (k + 1)).all labC) = R := by
  unfold LabAt at h
  rw [drop_byte s k hk, List.all_cons] at h
  exact h
def isNameB (s : ByteArray) : Bool := decide (1 ≤ s.size) && decide (s.size ≤ 64) && (sInts s).all labC
set_option maxHeartbeats 1000000 in
theorem g_isName (s : ByteArray) (w : World) :
    Calls Try.prog 69 #[.string s, .int .i64 64, .func (.func 70) #[] #[]] w fun e w' => e = .returned (.bool (isNameB s)) ∧ w = w' := by
  by_cases h1 : s.size < 1
  · have e : isNameB s = false := by unfold isNameB; rw [decide_eq_false (by omega : ¬ 1 ≤ s.size)]; simp
    rw [e]
    have q1 : decide ((s.size : Int) < 1) = true := by simp; omega
    clear e
    go_enter Try.func69, Try.ntmps69
    go_wp2
    go_ret
    exact ⟨rfl, rfl⟩
  · by_cases h2 : 64 < s.size
    · have e : isNameB s = false := by unfold isNameB; rw [decide_eq_false (by omega : ¬ s.size ≤ 64)]; simp
      rw [e]
      have q1 : decide ((s.size : Int) < 1) = false := by simp; omega
      have q2 : decide ((64 : Int) < (s.size : Int)) = true := by simp; omega
      clear e
      go_enter Try.func69, Try.ntmps69
      go_wp2
      go_ret
      exact ⟨rfl, rfl⟩
    · have e : isNameB s = (sInts s).all labC := by
        unfold isNameB
        rw [decide_eq_true (by omega : 1 ≤ s.size), decide_eq_true (by omega : s.size ≤ 64)]
        simp
      rw [e]
      have H0 : Hid (LabAt s 0 ((sInts s).all labC)) := by show LabAt _ _ _; unfold LabAt; rfl
      clear e
      generalize (sInts s).all labC = R at H0 ⊢
      have q1 : decide ((s.size : Int) < 1) = false := by simp; omega
      have q2 : decide ((64 : Int) < (s.size : Int)) = false := by simp; omega
      go_enter Try.func69, Try.ntmps69
      go_wp2
      go_loop [19] (fun i => ∃ k : Nat, k ≤ s.size ∧ i = .int .i64 k ∧ LabAt s k R) (fun i => s.size - (intOf i).toNat)
      case atStart => exact ⟨0, Nat.zero_le _, rfl, H0.out⟩
      case round =>
        obtain ⟨k, hk, rfl, hn⟩ := hrel
        have HN : Hid (LabAt s k R) := hn
        clear hn H0
        by_cases hlt : k < s.size
        · have hidx := idx9 s k hlt
          have HNx : Hid (_ = R) := HN.out.next hlt
          have hki : (k : Int) < (s.size : Int) := by omega
          generalize byteAt s k = c at hidx HNx
          cases hc : labC c with
          | true =>
            have HS : Hid (LabAt s (k + 1) R) := by have h := HNx.out; rw [hc, Bool.true_and] at h; exact h
            have HC : Hid (∀ w, Calls Try.prog 70 #[.int .u8 c] w fun e w' => e = .returned (.bool true) ∧ w = w') := fun w => by rw [← hc]; exact f_labByte c w
            clear HNx hc
            go_wp2_with (go_at_call 70; refine (HC.out _).mono ?_; rintro e w1 ⟨rfl, rfl⟩)
            go_round
            case rel => exact ⟨k + 1, by omega, by go_num, HS.out⟩
            case measure => simp [intOf]; omega
          | false =>
            have HS : Hid (false = R) := by have h := HNx.out; rw [hc, Bool.false_and] at h; exact h
            have HC : Hid (∀ w, Calls Try.prog 70 #[.int .u8 c] w fun e w' => e = .returned (.bool false) ∧ w = w') := fun w => by rw [← hc]; exact f_labByte c w
            clear HNx hc
            go_wp2_with (go_at_call 70; refine (HC.out _).mono ?_; rintro e w1 ⟨rfl, rfl⟩)
            go_ret
            exact ⟨ret_bool HS.out, rfl⟩
        · have HS : Hid (true = R) := by
            have h := HN.out
            unfold LabAt at h
            rw [List.drop_eq_nil_of_le (by rw [sInts_len]; omega), List.all_nil] at h
            exact h
          have hki : ¬ (k : Int) < (s.size : Int) := by omega
          go_wp2
          go_ret
          exact ⟨ret_bool HS.out, rfl⟩
theorem f_ofLabel (s : ByteArray) (w : World) : Calls Try.prog 67 #[.string s] w fun e w' => e = .returned (.bool (nameB s)) ∧ w = w' := by
  have e0 : nameB s = (isNameB s && !digB (byteAt s 0)) := rfl
  rw [e0]
  cases hn : isNameB s with
  | true =>
    have HC : Hid (∀ w, Calls Try.prog 69 #[.string s, .int .i64 64, .func (.func 70) #[] #[]] w fun e w' => e = .returned (.bool true) ∧ w = w') := fun w => by rw [← hn]; exact g_isName s w
    have hz : 0 < s.size := by
      unfold isNameB at hn
      simp only [Bool.and_eq_true, decide_eq_true_eq] at hn
      omega
    have HD : Hid (∀ w, Calls Try.prog 22 #[.int .u8 (byteAt s 0)] w fun e w' => e = .returned (.bool (digB (byteAt s 0))) ∧ w = w') := fun w => f_digit _ _ w rfl
    have hidx : ∀ w, (Instr.index 9 (.string s) (.int .i64 0)).run Try.prog w = .ok (.int .u8 (byteAt s 0)) w := fun w => idx9 s 0 hz w
    clear hn e0
    generalize byteAt s 0 = c at HD hidx ⊢
    generalize digB c = R at HD ⊢
    go_enter Try.func67, Try.ntmps67
    go_wp2_with fail
    refine (HC.out _).mono ?_
    rintro e w1 ⟨rfl, rfl⟩
    go_wp2_with fail
    refine (HD.out _).mono ?_
    rintro e w1 ⟨rfl, rfl⟩
    go_wp2
    go_ret
    exact ⟨ret_bool (by simp), rfl⟩
  | false =>
    have HC : Hid (∀ w, Calls Try.prog 69 #[.string s, .int .i64 64, .func (.func 70) #[] #[]] w fun e w' => e = .returned (.bool false) ∧ w = w') := fun w => by rw [← hn]; exact g_isName s w
    clear hn e0
    go_enter Try.func67, Try.ntmps67
    go_wp2_with fail
    refine (HC.out _).mono ?_
    rintro e w1 ⟨rfl, rfl⟩
    go_wp2
    go_ret
    exact ⟨ret_bool (by simp), rfl⟩
/-- What a call answers that reads something on, without a node. -/
def ReadOut {α : Type} (b p : Nat) (K : Tk) (k : Nat) (op : Int) (v : Value) (L : List Row) (R : Rs α) (ret : α → Value) (w : World) (e : Ending) (w' : World) : Prop :=
  match R with
  | .ok a r => e = .returned (ret a) ∧ ∃ k', RdAt w' b p K k' op v L ∧ Ahead K k' r ∧ k < k' ∧ Fr (Me p) w w'
  | .bad q c => e = .panicked (flt q c) ∧ Fr (Me p) w w'
  | .out => False
/-- labelName. -/
theorem f_lname {w : World} {b p : Nat} {K : Tk} {k : Nat} {op : Int} {v : Value} {L : List Row} {ts : List Tok} (h : RdAt w b p K k op v L) (ha : Ahead K k ts) :
    Calls Try.prog 61 #[.pointer (some ⟨p, 0, none⟩)] w fun e w' => ReadOut b p K k op v L (lname ts) .string w e w' := by
  have H := hid h
  have HA := hid ha
  have hk := ha.lt
  have hs := ha.small
  have HB := hid (fun W : World => heap_alloc_new W (.cells #[.int .i64 (hd ts).1, .int .i64 (hd ts).2.1, .string (hd ts).2.2.1, .int .i64 (hd ts).2.2.2] 52))
  have HN := hid (f_ofLabel (hd ts).2.2.1)
  have HC := hid (ha.next)
  unfold lname
  clear h ha
  by_cases h3 : (hd ts).1 = 3
  · have q0 : ((hd ts).1 == 3) = true := by simpa using h3
    have H3 := hid h3
    cases hb : nameB (hd ts).2.2.1 with
    | true =>
      rw [hb] at HN
      rw [decide_eq_true h3, if_pos (by rfl)]
      clear hb h3
      go_enter Try.func61, Try.ntmps61
      go_wp2_with fail
      refine (f_here H.out HA.out).mono ?_
      rintro e w1 ⟨rfl, g1⟩
      have G1 : Hid (w.grownBy (w1.alloc (.cells #[.int .i64 (hd ts).1, .int .i64 (hd ts).2.1, .string (hd ts).2.2.1, .int .i64 (hd ts).2.2.2] 52)) none) := g1.trans (World.grownBy_alloc _ _ none)
      have G1' := hid g1
      obtain ⟨z0, z1, z2, z3⟩ := cell4 (HB.out w1)
      clear g1 z1 z3
      unfold tkV
      go_wp2_with fail
      refine (HN.out _).mono ?_
      rintro e w2 ⟨rfl, rfl⟩
      go_wp2_with fail
      refine (f_must (H.out.grown G1.out) HA.out true).mono ?_
      rintro e w2 ⟨⟨_, rfl⟩ | ⟨h, _⟩, g2⟩
      · have hc2 := g2.cell z2 (by simp)
        have G2 : Hid (w.grownBy w2 none) := G1.out.trans g2
        obtain ⟨c0, c1, c2, c3⟩ := (H.out.grown G2.out).cells
        have z1 := (H.out.grown G2.out).free 1
        have hne : p ≠ w1.heap.size := by have := H.out.lt; have := G1'.out.size; omega
        clear g2 c0 c2 c3 z0 z2
        go_wp2
        go_ret
        exact ⟨rfl, k + 1, (H.out.step G2.out).1, HC.out (by rw [H3.out]; decide), by omega, (H.out.step G2.out).2⟩
      · cases h
    | false =>
      rw [hb] at HN
      rw [decide_eq_true h3, if_neg (by simp)]
      clear hb h3
      go_enter Try.func61, Try.ntmps61
      go_wp2_with fail
      refine (f_here H.out HA.out).mono ?_
      rintro e w1 ⟨rfl, g1⟩
      have G1 : Hid (w.grownBy (w1.alloc (.cells #[.int .i64 (hd ts).1, .int .i64 (hd ts).2.1, .string (hd ts).2.2.1, .int .i64 (hd ts).2.2.2] 52)) none) := g1.trans (World.grownBy_alloc _ _ none)
      obtain ⟨z0, z1, z2, z3⟩ := cell4 (HB.out w1)
      clear g1 z1 z3
      unfold tkV
      go_wp2_with fail
      refine (HN.out _).mono ?_
      rintro e w2 ⟨rfl, rfl⟩
      go_wp2_with fail
      refine (f_must (H.out.grown G1.out) HA.out false).mono ?_
      rintro e w2 ⟨⟨h, _⟩ | ⟨_, rfl⟩, g2⟩
      · cases h
      · have G2 : Hid (w.grownBy w2 none) := G1.out.trans g2
        clear g2
        go_wp2
        exact ⟨rfl, rfl, .of G2.out⟩
  · have q0 : ((hd ts).1 == 3) = false := by simpa using h3
    rw [decide_eq_false h3, if_neg (by simp)]
    clear h3
    go_enter Try.func61, Try.ntmps61
    go_wp2_with fail
    refine (f_here H.out HA.out).mono ?_
    rintro e w1 ⟨rfl, g1⟩
    have G1 : Hid (w.grownBy (w1.alloc (.cells #[.int .i64 (hd ts).1, .int .i64 (hd ts).2.1, .string (hd ts).2.2.1, .int .i64 (hd ts).2.2.2] 52)) none) := g1.trans (World.grownBy_alloc _ _ none)
    obtain ⟨z0, z1, z2, z3⟩ := cell4 (HB.out w1)
    clear g1 z1 z3
    unfold tkV
    go_wp2_with fail
    refine (f_must (H.out.grown G1.out) HA.out false).mono ?_
    rintro e w2 ⟨⟨h, _⟩ | ⟨_, rfl⟩, g2⟩
    · cases h
    · have G2 : Hid (w.grownBy w2 none) := G1.out.trans g2
      clear g2
      go_wp2
      exact ⟨rfl, rfl, .of G2.out⟩
end Go.Proofs.Ytnimdngiejcljaa
