/- The document's Number. -/
import Derived.Test.YtkocdmkojoefoaaRa
namespace Go.Proofs.Ytkocdmkojoefoaa
open Go.RowKit
set_option linter.unusedVariables false
set_option maxRecDepth 20000

theorem head_drop {l : List Int} {i : Nat} (hi : i < l.length) : i + (headR (l.drop i)).length = if l.getD i 0 = 46 then i else (i + 1) + (headR (l.drop (i + 1))).length := by
  unfold headR
  rw [drop_cons l i hi, List.takeWhile_cons]
  by_cases h : l.getD i 0 = 46
  · rw [if_neg (by simpa using h), if_pos h]; rfl
  · rw [if_pos (by simpa using h), if_neg h, List.length_cons]; omega
theorem head_len (l : List Int) : (headR l).length ≤ l.length := (List.takeWhile_prefix _).length_le
theorem head_pre (l : List Int) : l.take (headR l).length = headR l := (List.prefix_iff_eq_take.1 (List.takeWhile_prefix _)).symm
set_option maxHeartbeats 4000000 in
theorem r_number (s : ByteArray) (w : World) (hs : s.size ≤ 4096) (h1 : 1 ≤ s.size) : Calls Try.prog 19 #[.string s] w fun e w' => e = .returned (.bool (numB (sInts s))) ∧ w = w' := by
  have HSL : Hid ((sInts s).length = s.size) := sInts_len s
  generalize hR : numB (sInts s) = R
  have HR : Hid (numB (sInts s) = R) := hR
  clear hR
  go_enter Try.func19, Try.ntmps19
  go_wp2
  go_loopw [3, 4] (fun t3 t4 wr => ∃ j d : Nat, j ≤ s.size ∧ t4 = .int .i64 ((j : Int) - 1) ∧ t3 = .int .i64 (d : Int) ∧ d = j + (headR ((sInts s).drop j)).length ∧ wr = w) (fun _ t4 _ => (intOf t4 + 1).toNat)
  case atStart =>
    refine ⟨s.size, s.size, Nat.le_refl _, rfl, rfl, ?_, rfl⟩
    rw [List.drop_eq_nil_of_le (by rw [HSL.out]; exact Nat.le_refl _)]
    rfl
  case round =>
    obtain ⟨j, d, hj, rfl, rfl, hd, rfl⟩ := hrel
    have HD : Hid (d = j + (headR ((sInts s).drop j)).length) := hd
    have hdl : d ≤ s.size := by
      have h2 := head_len ((sInts s).drop j)
      rw [List.length_drop, sInts_len] at h2
      omega
    clear hd
    by_cases h0 : 0 < j
    · obtain ⟨i, rfl⟩ : ∃ i, j = i + 1 := ⟨j - 1, by omega⟩
      have e1 : (((i + 1 : Nat) : Int) - 1) = (i : Int) := by omega
      rw [e1]
      clear e1
      have hidx := idx9 s i (by omega)
      have HN : Hid (i + (headR ((sInts s).drop i)).length = if byteAt s i = 46 then i else d) := by
        show _ = _
        rw [head_drop (by rw [HSL.out]; omega), HD.out]
        rfl
      have hi0 : (0 : Int) ≤ (i : Int) := by omega
      generalize byteAt s i = c at hidx HN
      by_cases hc : c = 46
      · subst hc
        have HN2 : Hid (i = i + (headR ((sInts s).drop i)).length) := by show _ = _; rw [HN.out]; rfl
        clear HN HD
        go_wp2
        go_roundw
        case rel => exact ⟨i, i, by omega, by go_num, rfl, HN2.out, trivial⟩
        case measure => simp [intOf]
      · have q1 : (c == 46) = false := by simpa using hc
        have HN2 : Hid (d = i + (headR ((sInts s).drop i)).length) := by show _ = _; rw [HN.out, if_neg hc]
        clear HN HD hc
        go_wp2
        go_roundw
        case rel => exact ⟨i, d, by omega, by go_num, rfl, HN2.out, trivial⟩
        case measure => simp [intOf]
    · obtain rfl : j = 0 := by omega
      have hdd : d = (headR (sInts s)).length := by have := HD.out; simpa using this
      have HDD : Hid (d = (headR (sInts s)).length) := hdd
      have HT : Hid ((sInts s).take d = headR (sInts s)) := by show _ = _; rw [hdd, head_pre]
      have hsl := sl_hi s d hdl
      have eW : wholeB ((sInts s).take d) = wholeB (headR (sInts s)) := by rw [HT.out]
      have HWC : ∀ w, Calls Try.prog 30 #[.string (strOfNums ((sInts s).take d))] w fun e w' => e = .returned (.bool (wholeB (headR (sInts s)))) ∧ w = w' := fun w => by
        have h := r_whole (strOfNums ((sInts s).take d)) w (by rw [strOfNums_size, List.length_take, sInts_len]; omega)
        rw [sInts_str (fun z hz => sInts_byte s z (List.mem_of_mem_take hz)), eW] at h
        exact h
      have HX : Hid (R = (wholeB (headR (sInts s)) && (if d = s.size then decide (s.size ≤ 15) else ((sInts s).drop (d + 1)).all digB && decide (d + 1 < s.size) && decide (s.size ≤ 16)))) := by
        show _ = _
        rw [← HR.out]
        unfold numB
        rw [← HDD.out, HSL.out]
      generalize wholeB (headR (sInts s)) = bw at HWC HX
      generalize strOfNums ((sInts s).take d) = t at hsl HWC
      clear HD hdd HT HDD HR eW
      cases bw with
      | false =>
        have HF : Hid (R = false) := HX.out
        clear HX
        go_wp2_with (go_at_call 30; refine (HWC _).mono ?_; rintro e w1 ⟨rfl, rfl⟩)
        go_ret
        exact ⟨ret_bool HF.out.symm, rfl⟩
      | true =>
        by_cases hd1 : d = s.size
        · have HF : Hid (R = decide (s.size ≤ 15)) := by show _ = _; rw [HX.out, if_pos hd1]; rfl
          have q1 : ((d : Int) == (s.size : Int)) = true := by simp; omega
          by_cases h15 : s.size ≤ 15
          · have q2 : decide ((s.size : Int) ≤ 15) = true := by simp; omega
            have HF2 : Hid (R = true) := by show _ = _; rw [HF.out, decide_eq_true h15]
            clear HX HF hd1 h15
            go_wp2_with (go_at_call 30; refine (HWC _).mono ?_; rintro e w1 ⟨rfl, rfl⟩)
            go_ret
            exact ⟨ret_bool HF2.out.symm, rfl⟩
          · have q2 : decide ((s.size : Int) ≤ 15) = false := by simp; omega
            have HF2 : Hid (R = false) := by show _ = _; rw [HF.out, decide_eq_false h15]
            clear HX HF hd1
            go_wp2_with (go_at_call 30; refine (HWC _).mono ?_; rintro e w1 ⟨rfl, rfl⟩)
            go_ret
            exact ⟨ret_bool HF2.out.symm, rfl⟩
        · have HF : Hid (R = (((sInts s).drop (d + 1)).all digB && decide (d + 1 < s.size) && decide (s.size ≤ 16))) := by show _ = _; rw [HX.out, if_neg hd1]; rfl
          have q1 : ((d : Int) == (s.size : Int)) = false := by simp; omega
          have hd2 : d + 1 ≤ s.size := by omega
          clear HX
          go_wp2_with (go_at_call 30; refine (HWC _).mono ?_; rintro e w1 ⟨rfl, rfl⟩)
          clear HWC hsl
          go_loopw [5] (fun t5 wr2 => ∃ k : Nat, k ≤ s.size ∧ d + 1 ≤ k ∧ t5 = .int .i64 (k : Int) ∧ ((sInts s).drop k).all digB = ((sInts s).drop (d + 1)).all digB ∧ wr2 = wr) (fun t5 _ => s.size - (intOf t5).toNat)
          case atStart => exact ⟨d + 1, hd2, Nat.le_refl _, by go_num, rfl, rfl⟩
          case round =>
            obtain ⟨k, hk, hdk, rfl, hall, rfl⟩ := hrel
            have HA : Hid (((sInts s).drop k).all digB = ((sInts s).drop (d + 1)).all digB) := hall
            clear hall
            by_cases hlt : k < s.size
            · have hki : (k : Int) < (s.size : Int) := by omega
              have hidx := idx9 s k hlt
              have HD := fun w => r_digit (byteAt s k) _ w rfl
              have HNX : Hid (((sInts s).drop k).all digB = (digB (byteAt s k) && ((sInts s).drop (k + 1)).all digB)) := by
                show _ = _
                rw [drop_byte s k hlt, List.all_cons]
              cases hb : digB (byteAt s k) with
              | true =>
                have HN2 : Hid (((sInts s).drop (k + 1)).all digB = ((sInts s).drop (d + 1)).all digB) := by show _ = _; rw [← HA.out, HNX.out, hb, Bool.true_and]
                rw [hb] at HD
                clear hb HNX HA
                go_wp2_with (go_at_call 16; refine (HD _).mono ?_; rintro e w1 ⟨rfl, rfl⟩)
                go_roundw
                case rel => exact ⟨k + 1, by omega, by omega, by go_num, HN2.out, trivial⟩
                case measure => simp [intOf]; omega
              | false =>
                have HF2 : Hid (R = false) := by show _ = _; rw [HF.out, ← HA.out, HNX.out, hb]; rfl
                rw [hb] at HD
                clear hb HNX HA
                go_wp2_with (go_at_call 16; refine (HD _).mono ?_; rintro e w1 ⟨rfl, rfl⟩)
                go_ret
                exact ⟨ret_bool HF2.out.symm, rfl⟩
            · have hki : ¬ (k : Int) < (s.size : Int) := by omega
              have HF2 : Hid (R = (decide (d + 1 < s.size) && decide (s.size ≤ 16))) := by
                show _ = _
                rw [HF.out, ← HA.out, List.drop_eq_nil_of_le (by rw [HSL.out]; omega)]
                rfl
              clear HF HA
              by_cases g1 : d + 1 < s.size
              · have q2 : decide ((d : Int) + 1 < (s.size : Int)) = true := by simp; omega
                have q2' : (d : Int) + 1 < (s.size : Int) := by omega
                by_cases g2 : s.size ≤ 16
                · have q3 : decide ((s.size : Int) ≤ 16) = true := by simp; omega
                  have HF3 : Hid (R = true) := by show _ = _; rw [HF2.out, decide_eq_true g1, decide_eq_true g2]; rfl
                  clear HF2 g2
                  go_wp2
                  go_ret
                  exact ⟨ret_bool HF3.out.symm, rfl⟩
                · have q3 : decide ((s.size : Int) ≤ 16) = false := by simp; omega
                  have HF3 : Hid (R = false) := by show _ = _; rw [HF2.out, decide_eq_false g2, Bool.and_false]
                  clear HF2
                  go_wp2
                  go_ret
                  exact ⟨ret_bool HF3.out.symm, rfl⟩
              · have q2 : decide ((d : Int) + 1 < (s.size : Int)) = false := by simp; omega
                have q2' : ¬ (d : Int) + 1 < (s.size : Int) := by omega
                have HF3 : Hid (R = false) := by show _ = _; rw [HF2.out, decide_eq_false g1]; rfl
                clear HF2
                go_wp2
                go_ret
                exact ⟨ret_bool HF3.out.symm, rfl⟩
end Go.Proofs.Ytkocdmkojoefoaa
