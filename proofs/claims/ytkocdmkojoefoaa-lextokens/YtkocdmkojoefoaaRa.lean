/- The document's run and whole. -/
import Derived.Test.YtkocdmkojoefoaaNn
import Derived.Deep.Cut
namespace Go.Proofs.Ytkocdmkojoefoaa
open Go.RowKit
set_option linter.unusedVariables false
set_option maxRecDepth 20000

theorem getD_drop (l : List Int) (a j : Nat) : (l.drop a).getD j 0 = l.getD (a + j) 0 := by
  rw [List.getD_eq_getElem?_getD, List.getD_eq_getElem?_getD, List.getElem?_drop]
set_option maxHeartbeats 2000000 in
theorem r_run (s : ByteArray) (k0 : Nat) (m : Int) (w : World) (hs : s.size ≤ 4096) (hk0 : k0 ≤ s.size) (hm : m = 46 ∨ m = 58) :
    Calls Try.prog 17 #[.string s, .int .i64 (k0 : Int), .int .u8 m] w fun e w' => e = .returned (.int .i64 ((k0 + (runR m ((sInts s).drop k0)).length : Nat) : Int)) ∧ w = w' := by
  have hm0 : runB m 0 = false := by rcases hm with rfl | rfl <;> decide
  have HL : Hid (((sInts s).drop k0).length = s.size - k0) := by show _ = _; rw [List.length_drop, sInts_len]
  have HE : Hid (∀ j, RunAt (runB m) ((sInts s).drop k0) j → runB m (byteAt s (k0 + j)) = false → (runR m ((sInts s).drop k0)).length = j) := fun j h hb => by
    have h2 := h.done (by rw [getD_drop]; exact hb)
    unfold runR
    rw [h2, take_len h.1]
  have HN : Hid (∀ j, RunAt (runB m) ((sInts s).drop k0) j → runB m (byteAt s (k0 + j)) = true → RunAt (runB m) ((sInts s).drop k0) (j + 1)) := fun j h hb => (h.next hm0 (by rw [getD_drop]; exact hb)).2
  have H0 : Hid (RunAt (runB m) ((sInts s).drop k0) 0) := RunAt.zero _ _
  generalize runR m ((sInts s).drop k0) = R at HE ⊢
  go_enter Try.func17, Try.ntmps17
  go_wp2
  go_loopw [1] (fun t1 wr => ∃ j : Nat, t1 = .int .i64 ((k0 + j : Nat) : Int) ∧ RunAt (runB m) ((sInts s).drop k0) j ∧ wr = w) (fun t1 _ => s.size - (intOf t1).toNat)
  case atStart => exact ⟨0, rfl, H0.out, rfl⟩
  case round =>
    obtain ⟨j, rfl, hr, rfl⟩ := hrel
    have HR : Hid (RunAt (runB m) ((sInts s).drop k0) j) := hr
    have hj : k0 + j ≤ s.size := by have h1 := hr.1; rw [HL.out] at h1; omega
    clear hr
    obtain ⟨k, hk⟩ : ∃ k, k = k0 + j := ⟨_, rfl⟩
    have HK : Hid (k = k0 + j) := hk
    rw [← hk]
    rw [← hk] at hj
    clear hk
    by_cases hlt : k < s.size
    · have hki : (k : Int) < (s.size : Int) := by omega
      have hidx := idx9 s k hlt
      have HD := fun w => r_digit (byteAt s k) _ w rfl
      have HT := fun w => r_letter (byteAt s k) _ w rfl
      have q : (byteAt s k == m) = decide (byteAt s k = m) := by by_cases h : byteAt s k = m <;> simp [h]
      have HB : Hid (runB m (byteAt s k) = (digB (byteAt s k) || letB (byteAt s k) || decide (byteAt s k = m))) := rfl
      generalize decide (byteAt s k = m) = b3 at q HB
      generalize letB (byteAt s k) = b2 at HT HB
      generalize digB (byteAt s k) = b1 at HD HB
      have HBy : Hid (∃ c, byteAt s k = c ∧ True) := ⟨_, rfl, trivial⟩
      obtain ⟨c, hc⟩ : ∃ c, byteAt s k = c := ⟨_, rfl⟩
      have HC : Hid (byteAt s k = c) := hc
      rw [hc] at hidx HD HT q HB
      clear hc
      have HSTOP : Hid (runB m c = false → (R : List Int).length = j) := fun h => HE.out j HR.out (by rw [← HK.out, HC.out]; exact h)
      have HGO : Hid (runB m c = true → RunAt (runB m) ((sInts s).drop k0) (j + 1)) := fun h => HN.out j HR.out (by rw [← HK.out, HC.out]; exact h)
      cases b1 <;> cases b2 <;> cases b3
      case false.false.false =>
        have HF : Hid (R.length = j) := HSTOP.out HB.out
        clear HSTOP HGO
        go_wp2_with (first | (go_at_call 16; refine (HD _).mono ?_; rintro e w1 ⟨rfl, rfl⟩) | (go_at_call 20; refine (HT _).mono ?_; rintro e w1 ⟨rfl, rfl⟩))
        go_ret
        exact ⟨ret_int (by have h1 := HF.out; have h2 := HK.out; omega), rfl⟩
      all_goals
        have HF : Hid (RunAt (runB m) ((sInts s).drop k0) (j + 1)) := HGO.out HB.out
        clear HSTOP HGO
        go_wp2_with (first | (go_at_call 16; refine (HD _).mono ?_; rintro e w1 ⟨rfl, rfl⟩) | (go_at_call 20; refine (HT _).mono ?_; rintro e w1 ⟨rfl, rfl⟩))
        go_roundw
        case rel => exact ⟨j + 1, by rw [show k0 + (j + 1) = k + 1 by have := HK.out; omega]; go_num, HF.out, trivial⟩
        case measure => simp [intOf]; omega
    · have hki : ¬ (k : Int) < (s.size : Int) := by omega
      have HF : Hid (R.length = j) := HE.out j HR.out (by
        rw [← HK.out]
        have e : byteAt s k = 0 := by unfold byteAt; rw [List.getD_eq_getElem?_getD, List.getElem?_eq_none (by rw [sInts_len]; omega)]; rfl
        rw [e]
        exact hm0)
      go_wp2
      go_ret
      exact ⟨ret_int (by have h1 := HF.out; have h2 := HK.out; omega), rfl⟩
theorem whole_take {l : List Int} {k : Nat} (hk : k < l.length) : (l.take (k + 1)).all digB = ((l.take k).all digB && digB (l.getD k 0)) := by
  rw [List.take_add_one, List.getElem?_eq_getElem hk, Option.toList_some, List.all_append, List.all_cons, List.all_nil, Bool.and_true, List.getD_eq_getElem?_getD, List.getElem?_eq_getElem hk, Option.getD_some]
set_option maxHeartbeats 2000000 in
theorem r_whole (s : ByteArray) (w : World) (hs : s.size ≤ 4096) : Calls Try.prog 30 #[.string s] w fun e w' => e = .returned (.bool (wholeB (sInts s))) ∧ w = w' := by
  have HSL : Hid ((sInts s).length = s.size) := sInts_len s
  generalize hR : wholeB (sInts s) = R
  have HR : Hid (wholeB (sInts s) = R) := hR
  clear hR
  go_enter Try.func30, Try.ntmps30
  go_wp2
  go_loopw [3] (fun t3 wr => ∃ k : Nat, k ≤ s.size ∧ t3 = .int .i64 (k : Int) ∧ ((sInts s).take k).all digB = true ∧ wr = w) (fun t3 _ => s.size - (intOf t3).toNat)
  case atStart => exact ⟨0, Nat.zero_le _, rfl, by simp, rfl⟩
  case round =>
    obtain ⟨k, hk, rfl, ha, rfl⟩ := hrel
    have HA : Hid (((sInts s).take k).all digB = true) := ha
    clear ha
    by_cases hlt : k < s.size
    · have hki : (k : Int) < (s.size : Int) := by omega
      have hidx := idx9 s k hlt
      have HD := fun w => r_digit (byteAt s k) _ w rfl
      have HNX : Hid (((sInts s).take (k + 1)).all digB = digB (byteAt s k)) := by
        show _ = _
        rw [whole_take (by rw [HSL.out]; exact hlt), HA.out, Bool.true_and]
        rfl
      cases hb : digB (byteAt s k) with
      | true =>
        have HN2 : Hid (((sInts s).take (k + 1)).all digB = true) := by show _ = _; rw [HNX.out, hb]
        rw [hb] at HD
        clear hb HNX
        go_wp2_with (go_at_call 16; refine (HD _).mono ?_; rintro e w1 ⟨rfl, rfl⟩)
        go_roundw
        case rel => exact ⟨k + 1, by omega, by go_num, HN2.out, trivial⟩
        case measure => simp [intOf]; omega
      | false =>
        have HF : Hid (R = false) := by
          show _ = _
          rw [← HR.out]
          refine not_whole ?_
          have h1 : ((sInts s).take (k + 1)).all digB = false := by rw [HNX.out, hb]
          rw [Bool.eq_false_iff] at h1 ⊢
          intro h2
          exact h1 (List.all_eq_true.2 fun z hz => List.all_eq_true.1 h2 z (List.mem_of_mem_take hz))
        rw [hb] at HD
        clear hb HNX
        go_wp2_with (go_at_call 16; refine (HD _).mono ?_; rintro e w1 ⟨rfl, rfl⟩)
        go_ret
        exact ⟨ret_bool HF.out.symm, rfl⟩
    · have hki : ¬ (k : Int) < (s.size : Int) := by omega
      have HALL : Hid ((sInts s).all digB = true) := by
        show _ = _
        have := HA.out
        rwa [List.take_of_length_le (by rw [HSL.out]; omega)] at this
      have HW : Hid (R = (decide ((sInts s) ≠ []) && (decide (s.size = 1) || decide (byteAt s 0 ≠ 48)))) := by
        show _ = _
        rw [← HR.out]
        unfold wholeB
        rw [HALL.out, Bool.true_and, HSL.out]
        rfl
      clear HALL HA
      by_cases h0 : s.size = 0
      · have hse : s = ⟨#[]⟩ := ByteArray.ext (Array.eq_empty_of_size_eq_zero h0)
        have HF : Hid (R = false) := by
          show _ = _
          rw [HW.out]
          have : (sInts s) = [] := List.eq_nil_of_length_eq_zero (by rw [HSL.out, h0])
          rw [this]
          rfl
        have q1 : s.toList.isEmpty = true := by rw [str_none, decide_eq_true hse]
        have q2 : (s.toList == []) = true := by rw [hse, ByteArray.toList_eq]; rfl
        have q3 : (s.toList != []) = false := by rw [hse, ByteArray.toList_eq]; rfl
        clear HW
        go_wp2
        go_ret
        exact ⟨ret_bool HF.out.symm, rfl⟩
      · have hne : s ≠ ⟨#[]⟩ := fun e => h0 (by rw [e]; rfl)
        have q1 : s.toList.isEmpty = false := by rw [str_none, decide_eq_false hne]
        have q2 : (s.toList == []) = false := by
          have h := str_eq s ⟨#[]⟩
          rw [show ByteArray.toList ⟨#[]⟩ = [] by rw [ByteArray.toList_eq], decide_eq_false hne] at h
          exact h
        have q3 : (s.toList != []) = true := by
          show (!(s.toList == [])) = true
          rw [q2]; rfl
        have hidx0 : ∀ w, (Instr.index 9 (.string s) (.int .i64 0)).run Try.prog w = .ok (.int .u8 (byteAt s 0)) w := idx9 s 0 (by omega)
        have HNE : Hid (decide ((sInts s) ≠ []) = true) := by
          show _ = _
          rw [decide_eq_true_eq]
          intro e
          have h2 := HSL.out
          rw [e] at h2
          exact h0 h2.symm
        by_cases h1 : s.size = 1
        · have q4 : ((s.size : Int) == 1) = true := by simp; omega
          have q5 : (s.size == 1) = true := by simpa using h1
          have HF : Hid (R = true) := by show _ = _; rw [HW.out, HNE.out, decide_eq_true h1]; rfl
          clear HW
          go_wp2
          go_ret
          exact ⟨ret_bool HF.out.symm, rfl⟩
        · have q4 : ((s.size : Int) == 1) = false := by simp; omega
          have q5 : (s.size == 1) = false := by simpa using h1
          have HF : Hid (R = decide (byteAt s 0 ≠ 48)) := by show _ = _; rw [HW.out, HNE.out, decide_eq_false h1]; rfl
          clear HW
          generalize byteAt s 0 = c at hidx0 HF
          by_cases hc : c = 48
          · subst hc
            go_wp2
            go_ret
            exact ⟨ret_bool HF.out.symm, rfl⟩
          · have q6 : (c == 48) = false := by simpa using hc
            have q7 : (c != 48) = true := by simpa using hc
            have HF2 : Hid (R = true) := by show _ = _; rw [HF.out, decide_eq_true hc]
            clear HF hc
            go_wp2
            go_ret
            exact ⟨ret_bool HF2.out.symm, rfl⟩
end Go.Proofs.Ytkocdmkojoefoaa
