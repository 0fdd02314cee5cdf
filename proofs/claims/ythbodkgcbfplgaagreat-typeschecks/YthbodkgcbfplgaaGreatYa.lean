/- The document's digit, whole, Number (texts of any length). -/
import Derived.Test.YthbodkgcbfplgaaGreatXf
import Derived.Deep.Cut
namespace Go.Proofs.YthbodkgcbfplgaaGreat
open Go.RowKit
set_option linter.unusedVariables false
set_option linter.unusedSimpArgs false
set_option maxRecDepth 20000

theorem r_digit (c : Int) (R : Bool) (w : World) (hR : digB c = R) : Calls Tryz.prog 47 #[.int .u8 c] w fun e w' => e = .returned (.bool R) ∧ w = w' := by
  have hc : c ≤ 47 ∨ 48 ≤ c ∧ c ≤ 57 ∨ 58 ≤ c := by omega
  rcases hc with h | h | h
  · have hr : R = false := by rw [← hR]; unfold digB; simp; omega
    subst hr; clear hR
    have q0 : decide (48 ≤ c) = false := by simp; omega
    have q1 : decide (c ≤ 57) = true := by simp; omega
    clear h
    go_enter Tryz.func47, Tryz.ntmps47
    go_wp2
    go_ret
    exact ⟨rfl, rfl⟩
  · have hr : R = true := by rw [← hR]; unfold digB; simp; omega
    subst hr; clear hR
    have q0 : decide (48 ≤ c) = true := by simp; omega
    have q1 : decide (c ≤ 57) = true := by simp; omega
    clear h
    go_enter Tryz.func47, Tryz.ntmps47
    go_wp2
    go_ret
    exact ⟨rfl, rfl⟩
  · have hr : R = false := by rw [← hR]; unfold digB; simp; omega
    subst hr; clear hR
    have q0 : decide (48 ≤ c) = true := by simp; omega
    have q1 : decide (c ≤ 57) = false := by simp; omega
    clear h
    go_enter Tryz.func47, Tryz.ntmps47
    go_wp2
    go_ret
    exact ⟨rfl, rfl⟩
theorem whole_take {l : List Int} {k : Nat} (hk : k < l.length) : (l.take (k + 1)).all digB = ((l.take k).all digB && digB (l.getD k 0)) := by
  rw [List.take_add_one, List.getElem?_eq_getElem hk, Option.toList_some, List.all_append, List.all_cons, List.all_nil, Bool.and_true, List.getD_eq_getElem?_getD, List.getElem?_eq_getElem hk, Option.getD_some]
set_option maxHeartbeats 2000000 in
theorem r_whole (s : ByteArray) (w : World) (hs : s.size ≤ 9223372036854775807) : Calls Tryz.prog 46 #[.string s] w fun e w' => e = .returned (.bool (wholeB (sInts s))) ∧ w = w' := by
  have HSL : Hid ((sInts s).length = s.size) := sInts_len s
  generalize hR : wholeB (sInts s) = R
  have HR : Hid (wholeB (sInts s) = R) := hR
  clear hR
  go_enter Tryz.func46, Tryz.ntmps46
  go_wp2
  go_loopw [3] (fun t3 wr => ∃ k : Nat, k ≤ s.size ∧ t3 = .int .i64 (k : Int) ∧ ((sInts s).take k).all digB = true ∧ wr = w) (fun t3 _ => s.size - (intOf t3).toNat)
  case atStart => exact ⟨0, Nat.zero_le _, rfl, by simp, rfl⟩
  case round =>
    obtain ⟨k, hk, rfl, ha, rfl⟩ := hrel
    have HA : Hid (((sInts s).take k).all digB = true) := ha
    clear ha
    by_cases hlt : k < s.size
    · have hki : (k : Int) < (s.size : Int) := by omega
      have hidx := idx9 s k hlt
      have HD := fun w => r_digit (byteAt s k) _ w rfl
      have HNX : Hid (((sInts s).take (k + 1)).all digB = digB (byteAt s k)) := by
        show _ = _
        rw [whole_take (by rw [HSL.out]; exact hlt), HA.out, Bool.true_and]
        rfl
      cases hb : digB (byteAt s k) with
      | true =>
        have HN2 : Hid (((sInts s).take (k + 1)).all digB = true) := by show _ = _; rw [HNX.out, hb]
        rw [hb] at HD
        clear hb HNX
        go_wp2_with (go_at_call 47; refine (HD _).mono ?_; rintro e w1 ⟨rfl, rfl⟩)
        go_roundw
        case rel => exact ⟨k + 1, by omega, by go_num, HN2.out, trivial⟩
        case measure => simp [intOf]; omega
      | false =>
        have HF : Hid (R = false) := by
          show _ = _
          rw [← HR.out]
          refine not_whole ?_
          have h1 : ((sInts s).take (k + 1)).all digB = false := by rw [HNX.out, hb]
          rw [Bool.eq_false_iff] at h1 ⊢
          intro h2
          exact h1 (List.all_eq_true.2 fun z hz => List.all_eq_true.1 h2 z (List.mem_of_mem_take hz))
        rw [hb] at HD
        clear hb HNX
        go_wp2_with (go_at_call 47; refine (HD _).mono ?_; rintro e w1 ⟨rfl, rfl⟩)
        go_ret
        exact ⟨ret_bool HF.out.symm, rfl⟩
    · have hki : ¬ (k : Int) < (s.size : Int) := by omega
      have HALL : Hid ((sInts s).all digB = true) := by
        show _ = _
        have := HA.out
        rwa [List.take_of_length_le (by rw [HSL.out]; omega)] at this
      have HW : Hid (R = (decide ((sInts s) ≠ []) && (decide (s.size = 1) || decide (byteAt s 0 ≠ 48)))) := by
        show _ = _
        rw [← HR.out]
        unfold wholeB
        rw [HALL.out, Bool.true_and, HSL.out]
        rfl
      clear HALL HA
      by_cases h0 : s.size = 0
      · have hse : s = ⟨#[]⟩ := ByteArray.ext (Array.eq_empty_of_size_eq_zero h0)
        have HF : Hid (R = false) := by
          show _ = _
          rw [HW.out]
          have : (sInts s) = [] := List.eq_nil_of_length_eq_zero (by rw [HSL.out, h0])
          rw [this]
          rfl
        have q1 : s.toList.isEmpty = true := by rw [str_none, decide_eq_true hse]
        have q2 : (s.toList == []) = true := by rw [hse, ByteArray.toList_eq]; rfl
        have q3 : (s.toList != []) = false := by rw [hse, ByteArray.toList_eq]; rfl
        clear HW
        go_wp2
        go_ret
        exact ⟨ret_bool HF.out.symm, rfl⟩
      · have hne : s ≠ ⟨#[]⟩ := fun e => h0 (by rw [e]; rfl)
        have q1 : s.toList.isEmpty = false := by rw [str_none, decide_eq_false hne]
        have q2 : (s.toList == []) = false := by
          have h := str_eq s ⟨#[]⟩
          rw [show ByteArray.toList ⟨#[]⟩ = [] by rw [ByteArray.toList_eq], decide_eq_false hne] at h
          exact h
        have q3 : (s.toList != []) = true := by
          show (!(s.toList == [])) = true
          rw [q2]; rfl
        have hidx0 : ∀ w, (Instr.index 9 (.string s) (.int .i64 0)).run Tryz.prog w = .ok (.int .u8 (byteAt s 0)) w := idx9 s 0 (by omega)
        have HNE : Hid (decide ((sInts s) ≠ []) = true) := by
          show _ = _
          rw [decide_eq_true_eq]
          intro e
          have h2 := HSL.out
          rw [e] at h2
          exact h0 h2.symm
        by_cases h1 : s.size = 1
        · have q4 : ((s.size : Int) == 1) = true := by simp; omega
          have q5 : (s.size == 1) = true := by simpa using h1
          have HF : Hid (R = true) := by show _ = _; rw [HW.out, HNE.out, decide_eq_true h1]; rfl
          clear HW
          go_wp2
          go_ret
          exact ⟨ret_bool HF.out.symm, rfl⟩
        · have q4 : ((s.size : Int) == 1) = false := by simp; omega
          have q5 : (s.size == 1) = false := by simpa using h1
          have HF : Hid (R = decide (byteAt s 0 ≠ 48)) := by show _ = _; rw [HW.out, HNE.out, decide_eq_false h1]; rfl
          clear HW
          generalize byteAt s 0 = c at hidx0 HF
          by_cases hc : c = 48
          · subst hc
            go_wp2
            go_ret
            exact ⟨ret_bool HF.out.symm, rfl⟩
          · have q6 : (c == 48) = false := by simpa using hc
            have q7 : (c != 48) = true := by simpa using hc
            have HF2 : Hid (R = true) := by show _ = _; rw [HF.out, decide_eq_true hc]
            clear HF hc
            go_wp2
            go_ret
            exact ⟨ret_bool HF2.out.symm, rfl⟩
theorem head_drop {l : List Int} {i : Nat} (hi : i < l.length) : i + (headR (l.drop i)).length = if l.getD i 0 = 46 then i else (i + 1) + (headR (l.drop (i + 1))).length := by
  unfold headR
  rw [drop_cons l i hi, List.takeWhile_cons]
  by_cases h : l.getD i 0 = 46
  · rw [if_neg (by simpa using h), if_pos h]; rfl
  · rw [if_pos (by simpa using h), if_neg h, List.length_cons]; omega
theorem head_len (l : List Int) : (headR l).length ≤ l.length := (List.takeWhile_prefix _).length_le
theorem head_pre (l : List Int) : l.take (headR l).length = headR l := (List.prefix_iff_eq_take.1 (List.takeWhile_prefix _)).symm
set_option maxHeartbeats 4000000 in
theorem r_number (s : ByteArray) (w : World) (hs : s.size ≤ 9223372036854775807) : Calls Tryz.prog 27 #[.string s] w fun e w' => e = .returned (.bool (numB (sInts s))) ∧ w = w' := by
  have HSL : Hid ((sInts s).length = s.size) := sInts_len s
  generalize hR : numB (sInts s) = R
  have HR : Hid (numB (sInts s) = R) := hR
  clear hR
  go_enter Tryz.func27, Tryz.ntmps27
  go_wp2
  go_loopw [3, 4] (fun t3 t4 wr => ∃ j d : Nat, j ≤ s.size ∧ t4 = .int .i64 ((j : Int) - 1) ∧ t3 = .int .i64 (d : Int) ∧ d = j + (headR ((sInts s).drop j)).length ∧ wr = w) (fun _ t4 _ => (intOf t4 + 1).toNat)
  case atStart =>
    refine ⟨s.size, s.size, Nat.le_refl _, rfl, rfl, ?_, rfl⟩
    rw [List.drop_eq_nil_of_le (by rw [HSL.out]; exact Nat.le_refl _)]
    rfl
  case round =>
    obtain ⟨j, d, hj, rfl, rfl, hd, rfl⟩ := hrel
    have HD : Hid (d = j + (headR ((sInts s).drop j)).length) := hd
    have hdl : d ≤ s.size := by
      have h2 := head_len ((sInts s).drop j)
      rw [List.length_drop, sInts_len] at h2
      omega
    clear hd
    by_cases h0 : 0 < j
    · obtain ⟨i, rfl⟩ : ∃ i, j = i + 1 := ⟨j - 1, by omega⟩
      have e1 : (((i + 1 : Nat) : Int) - 1) = (i : Int) := by omega
      rw [e1]
      clear e1
      have hidx := idx9 s i (by omega)
      have HN : Hid (i + (headR ((sInts s).drop i)).length = if byteAt s i = 46 then i else d) := by
        show _ = _
        rw [head_drop (by rw [HSL.out]; omega), HD.out]
        rfl
      have hi0 : (0 : Int) ≤ (i : Int) := by omega
      generalize byteAt s i = c at hidx HN
      by_cases hc : c = 46
      · subst hc
        have HN2 : Hid (i = i + (headR ((sInts s).drop i)).length) := by show _ = _; rw [HN.out]; rfl
        clear HN HD
        go_wp2
        go_roundw
        case rel => exact ⟨i, i, by omega, by go_num, rfl, HN2.out, trivial⟩
        case measure => simp [intOf]
      · have q1 : (c == 46) = false := by simpa using hc
        have HN2 : Hid (d = i + (headR ((sInts s).drop i)).length) := by show _ = _; rw [HN.out, if_neg hc]
        clear HN HD hc
        go_wp2
        go_roundw
        case rel => exact ⟨i, d, by omega, by go_num, rfl, HN2.out, trivial⟩
        case measure => simp [intOf]
    · obtain rfl : j = 0 := by omega
      have hdd : d = (headR (sInts s)).length := by have := HD.out; simpa using this
      have HDD : Hid (d = (headR (sInts s)).length) := hdd
      have HT : Hid ((sInts s).take d = headR (sInts s)) := by show _ = _; rw [hdd, head_pre]
      have hsl := sl_hi s d hdl
      have eW : wholeB ((sInts s).take d) = wholeB (headR (sInts s)) := by rw [HT.out]
      have HWC : ∀ w, Calls Tryz.prog 46 #[.string (strOfNums ((sInts s).take d))] w fun e w' => e = .returned (.bool (wholeB (headR (sInts s)))) ∧ w = w' := fun w => by
        have h := r_whole (strOfNums ((sInts s).take d)) w (by rw [strOfNums_size, List.length_take, sInts_len]; omega)
        rw [sInts_str (fun z hz => sInts_byte s z (List.mem_of_mem_take hz)), eW] at h
        exact h
      have HX : Hid (R = (wholeB (headR (sInts s)) && (if d = s.size then decide (s.size ≤ 15) else ((sInts s).drop (d + 1)).all digB && decide (d + 1 < s.size) && decide (s.size ≤ 16)))) := by
        show _ = _
        rw [← HR.out]
        unfold numB
        rw [← HDD.out, HSL.out]
      generalize wholeB (headR (sInts s)) = bw at HWC HX
      generalize strOfNums ((sInts s).take d) = t at hsl HWC
      clear HD hdd HT HDD HR eW
      cases bw with
      | false =>
        have HF : Hid (R = false) := HX.out
        clear HX
        go_wp2_with (go_at_call 46; refine (HWC _).mono ?_; rintro e w1 ⟨rfl, rfl⟩)
        go_ret
        exact ⟨ret_bool HF.out.symm, rfl⟩
      | true =>
        by_cases hd1 : d = s.size
        · have HF : Hid (R = decide (s.size ≤ 15)) := by show _ = _; rw [HX.out, if_pos hd1]; rfl
          have q1 : ((d : Int) == (s.size : Int)) = true := by simp; omega
          by_cases h15 : s.size ≤ 15
          · have q2 : decide ((s.size : Int) ≤ 15) = true := by simp; omega
            have HF2 : Hid (R = true) := by show _ = _; rw [HF.out, decide_eq_true h15]
            clear HX HF hd1 h15
            go_wp2_with (go_at_call 46; refine (HWC _).mono ?_; rintro e w1 ⟨rfl, rfl⟩)
            go_ret
            exact ⟨ret_bool HF2.out.symm, rfl⟩
          · have q2 : decide ((s.size : Int) ≤ 15) = false := by simp; omega
            have HF2 : Hid (R = false) := by show _ = _; rw [HF.out, decide_eq_false h15]
            clear HX HF hd1
            go_wp2_with (go_at_call 46; refine (HWC _).mono ?_; rintro e w1 ⟨rfl, rfl⟩)
            go_ret
            exact ⟨ret_bool HF2.out.symm, rfl⟩
        · have HF : Hid (R = (((sInts s).drop (d + 1)).all digB && decide (d + 1 < s.size) && decide (s.size ≤ 16))) := by show _ = _; rw [HX.out, if_neg hd1]; rfl
          have q1 : ((d : Int) == (s.size : Int)) = false := by simp; omega
          have hd2 : d + 1 ≤ s.size := by omega
          clear HX
          go_wp2_with (go_at_call 46; refine (HWC _).mono ?_; rintro e w1 ⟨rfl, rfl⟩)
          clear HWC hsl
          go_loopw [5] (fun t5 wr2 => ∃ k : Nat, k ≤ s.size ∧ d + 1 ≤ k ∧ t5 = .int .i64 (k : Int) ∧ ((sInts s).drop k).all digB = ((sInts s).drop (d + 1)).all digB ∧ wr2 = wr) (fun t5 _ => s.size - (intOf t5).toNat)
          case atStart => exact ⟨d + 1, hd2, Nat.le_refl _, by go_num, rfl, rfl⟩
          case round =>
            obtain ⟨k, hk, hdk, rfl, hall, rfl⟩ := hrel
            have HA : Hid (((sInts s).drop k).all digB = ((sInts s).drop (d + 1)).all digB) := hall
            clear hall
            by_cases hlt : k < s.size
            · have hki : (k : Int) < (s.size : Int) := by omega
              have hidx := idx9 s k hlt
              have HD := fun w => r_digit (byteAt s k) _ w rfl
              have HNX : Hid (((sInts s).drop k).all digB = (digB (byteAt s k) && ((sInts s).drop (k + 1)).all digB)) := by
                show _ = _
                rw [drop_byte s k hlt, List.all_cons]
              cases hb : digB (byteAt s k) with
              | true =>
                have HN2 : Hid (((sInts s).drop (k + 1)).all digB = ((sInts s).drop (d + 1)).all digB) := by show _ = _; rw [← HA.out, HNX.out, hb, Bool.true_and]
                rw [hb] at HD
                clear hb HNX HA
                go_wp2_with (go_at_call 47; refine (HD _).mono ?_; rintro e w1 ⟨rfl, rfl⟩)
                go_roundw
                case rel => exact ⟨k + 1, by omega, by omega, by go_num, HN2.out, trivial⟩
                case measure => simp [intOf]; omega
              | false =>
                have HF2 : Hid (R = false) := by show _ = _; rw [HF.out, ← HA.out, HNX.out, hb]; rfl
                rw [hb] at HD
                clear hb HNX HA
                go_wp2_with (go_at_call 47; refine (HD _).mono ?_; rintro e w1 ⟨rfl, rfl⟩)
                go_ret
                exact ⟨ret_bool HF2.out.symm, rfl⟩
            · have hki : ¬ (k : Int) < (s.size : Int) := by omega
              have HF2 : Hid (R = (decide (d + 1 < s.size) && decide (s.size ≤ 16))) := by
                show _ = _
                rw [HF.out, ← HA.out, List.drop_eq_nil_of_le (by rw [HSL.out]; omega)]
                rfl
              clear HF HA
              by_cases g1 : d + 1 < s.size
              · have q2 : decide ((d : Int) + 1 < (s.size : Int)) = true := by simp; omega
                have q2' : (d : Int) + 1 < (s.size : Int) := by omega
                by_cases g2 : s.size ≤ 16
                · have q3 : decide ((s.size : Int) ≤ 16) = true := by simp; omega
                  have HF3 : Hid (R = true) := by show _ = _; rw [HF2.out, decide_eq_true g1, decide_eq_true g2]; rfl
                  clear HF2 g2
                  go_wp2
                  go_ret
                  exact ⟨ret_bool HF3.out.symm, rfl⟩
                · have q3 : decide ((s.size : Int) ≤ 16) = false := by simp; omega
                  have HF3 : Hid (R = false) := by show _ = _; rw [HF2.out, decide_eq_false g2, Bool.and_false]
                  clear HF2
                  go_wp2
                  go_ret
                  exact ⟨ret_bool HF3.out.symm, rfl⟩
              · have q2 : decide ((d : Int) + 1 < (s.size : Int)) = false := by simp; omega
                have q2' : ¬ (d : Int) + 1 < (s.size : Int) := by omega
                have HF3 : Hid (R = false) := by show _ = _; rw [HF2.out, decide_eq_false g1]; rfl
                clear HF2
                go_wp2
                go_ret
                exact ⟨ret_bool HF3.out.symm, rfl⟩
end Go.Proofs.YthbodkgcbfplgaaGreat
