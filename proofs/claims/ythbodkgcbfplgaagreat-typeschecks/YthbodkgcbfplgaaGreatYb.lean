/- The document's Name. -/
import Derived.Test.YthbodkgcbfplgaaGreatXf
import Derived.Deep.Cut
namespace Go.Proofs.YthbodkgcbfplgaaGreat
open Go.RowKit
set_option linter.unusedVariables false
set_option linter.unusedSimpArgs false
set_option maxRecDepth 20000

def nmC (c : Int) : Bool := decide (65 ≤ c) && decide (c ≤ 90) || decide (97 ≤ c) && decide (c ≤ 122) || decide (48 ≤ c) && decide (c ≤ 57) || decide (c = 95)
def nameR (s : ByteArray) : Bool := decide (0 < s.size) && decide (s.size ≤ 64) && !(decide (48 ≤ byteAt s 0) && decide (byteAt s 0 ≤ 57)) && (sInts s).all nmC
def NameAt (s : ByteArray) (k : Nat) (R : Bool) : Prop := ((sInts s).drop k).all nmC = R
theorem NameAt.next {s : ByteArray} {k : Nat} {R : Bool} (h : NameAt s k R) (hk : k < s.size) : (nmC (byteAt s k) && ((sInts s).drop (k + 1)).all nmC) = R := by
  unfold NameAt at h
  have hl : k < (sInts s).length := by rw [sInts_len]; exact hk
  rw [List.drop_eq_getElem_cons hl, List.all_cons] at h
  have : byteAt s k = (sInts s)[k] := by
    unfold byteAt
    rw [List.getD_eq_getElem?_getD, List.getElem?_eq_getElem hl]
    rfl
  rw [this]
  exact h

set_option maxHeartbeats 1000000 in
theorem name_loop (s : ByteArray) (R : Bool) (w : World) (h1 : 1 ≤ s.size) (h2 : s.size ≤ 64) (hd : ¬ (48 ≤ byteAt s 0 ∧ byteAt s 0 ≤ 57)) (hR : (sInts s).all nmC = R) :
    Calls Tryz.prog 29 #[.string s] w fun e w' => e = .returned (.bool R) ∧ w = w' := by
  have H0 : Hid (NameAt s 0 R) := hR
  have e0 := byteAt_eq s 0 (by omega)
  clear hR
  have q1 : decide ((s.size : Int) < 1) = false := by simp; omega
  have q2 : decide ((64 : Int) < (s.size : Int)) = false := by simp; omega
  have hidx : ∀ w, (Instr.index 9 (.string s) (.int .i64 0)).run Tryz.prog w = .ok (.int .u8 (byteAt s 0)) w := idx9 s 0 (by omega)
  generalize byteAt s 0 = c0 at hd hidx e0
  by_cases h48 : 48 ≤ c0
  · have h57 : ¬ c0 ≤ 57 := by omega
    have q4 : decide (48 ≤ c0) = true := by simpa using h48
    have q5 : decide (c0 ≤ 57) = false := by simpa using h57
    clear hd h48 h57 e0
    go_enter Tryz.func29, Tryz.ntmps29
    go_wp2
    go_loop [3] (fun i => ∃ k : Nat, k ≤ s.size ∧ i = .int .i64 k ∧ NameAt s k R) (fun i => s.size - (intOf i).toNat)
    case atStart => exact ⟨0, Nat.zero_le _, rfl, H0.out⟩
    case round =>
      obtain ⟨k, hk, rfl, hn⟩ := hrel
      have HN : Hid (NameAt s k R) := hn
      clear hn H0 hidx
      by_cases hlt : k < s.size
      · have hidx := idx9 s k hlt
        have HNx : Hid (_ = R) := HN.out.next hlt
        have hb := byteAt_bd s k
        have hki : (k : Int) < (s.size : Int) := by omega
        generalize byteAt s k = c at hidx HNx hb
        by_cases hc : nmC c = true
        · have HS : Hid (NameAt s (k + 1) R) := by have h := HNx.out; rw [hc, Bool.true_and] at h; exact h
          have hcc : (decide (65 ≤ c) && decide (c ≤ 90) || decide (97 ≤ c) && decide (c ≤ 122) || decide (48 ≤ c) && decide (c ≤ 57) || decide (c = 95)) = true := hc
          simp only [Bool.or_eq_true, Bool.and_eq_true, decide_eq_true_eq] at hcc
          clear HNx hc
          rcases hcc with ((hcc | hcc) | hcc) | hcc
          · have r1 : decide (65 ≤ c) = true := by simp; omega
            have r2 : decide (c ≤ 90) = true := by simp; omega
            clear hcc
            go_wp2
            go_round
            case rel => exact ⟨k + 1, by omega, by go_num, HS.out⟩
            case measure => simp [intOf]; omega
          · have r1 : decide (65 ≤ c) = true := by simp; omega
            have r2 : decide (c ≤ 90) = false := by simp; omega
            have r3 : decide (97 ≤ c) = true := by simp; omega
            have r4 : decide (c ≤ 122) = true := by simp; omega
            clear hcc
            go_wp2
            go_round
            case rel => exact ⟨k + 1, by omega, by go_num, HS.out⟩
            case measure => simp [intOf]; omega
          · have r1 : decide (65 ≤ c) = false := by simp; omega
            have r3 : decide (97 ≤ c) = false := by simp; omega
            have r5 : decide (48 ≤ c) = true := by simp; omega
            have r6 : decide (c ≤ 57) = true := by simp; omega
            clear hcc
            go_wp2
            go_round
            case rel => exact ⟨k + 1, by omega, by go_num, HS.out⟩
            case measure => simp [intOf]; omega
          · subst hcc
            go_wp2
            go_round
            case rel => exact ⟨k + 1, by omega, by go_num, HS.out⟩
            case measure => simp [intOf]; omega
        · have HS : Hid (false = R) := by have h := HNx.out; rw [show nmC c = false by simpa using hc, Bool.false_and] at h; exact h
          have hcc : ¬ ((decide (65 ≤ c) && decide (c ≤ 90) || decide (97 ≤ c) && decide (c ≤ 122) || decide (48 ≤ c) && decide (c ≤ 57) || decide (c = 95)) = true) := hc
          simp only [Bool.or_eq_true, Bool.and_eq_true, decide_eq_true_eq] at hcc
          have r7 : (c == 95) = false := by simp; omega
          clear HNx hc
          by_cases t1 : 65 ≤ c
          · have r1 : decide (65 ≤ c) = true := by simpa using t1
            have r2 : decide (c ≤ 90) = false := by simp; omega
            have r5 : decide (48 ≤ c) = true := by simp; omega
            have r6 : decide (c ≤ 57) = false := by simp; omega
            by_cases t2 : 97 ≤ c
            · have r3 : decide (97 ≤ c) = true := by simpa using t2
              have r4 : decide (c ≤ 122) = false := by simp; omega
              clear hcc t1 t2
              go_wp2
              go_ret
              exact ⟨ret_bool HS.out, rfl⟩
            · have r3 : decide (97 ≤ c) = false := by simpa using t2
              clear hcc t1 t2
              go_wp2
              go_ret
              exact ⟨ret_bool HS.out, rfl⟩
          · have r1 : decide (65 ≤ c) = false := by simpa using t1
            have r3 : decide (97 ≤ c) = false := by simp; omega
            by_cases t2 : 48 ≤ c
            · have r5 : decide (48 ≤ c) = true := by simpa using t2
              have r6 : decide (c ≤ 57) = false := by simp; omega
              clear hcc t1 t2
              go_wp2
              go_ret
              exact ⟨ret_bool HS.out, rfl⟩
            · have r5 : decide (48 ≤ c) = false := by simpa using t2
              clear hcc t1 t2
              go_wp2
              go_ret
              exact ⟨ret_bool HS.out, rfl⟩
      · have HS : Hid (true = R) := by
          have h := HN.out
          unfold NameAt at h
          rw [List.drop_eq_nil_of_le (by rw [sInts_len]; omega), List.all_nil] at h
          exact h
        have hki : ¬ (k : Int) < (s.size : Int) := by omega
        go_wp2
        go_ret
        exact ⟨ret_bool HS.out, rfl⟩
  · have q4 : decide (48 ≤ c0) = false := by simpa using h48
    clear hd h48 e0
    go_enter Tryz.func29, Tryz.ntmps29
    go_wp2
    go_loop [3] (fun i => ∃ k : Nat, k ≤ s.size ∧ i = .int .i64 k ∧ NameAt s k R) (fun i => s.size - (intOf i).toNat)
    case atStart => exact ⟨0, Nat.zero_le _, rfl, H0.out⟩
    case round =>
      obtain ⟨k, hk, rfl, hn⟩ := hrel
      have HN : Hid (NameAt s k R) := hn
      clear hn H0 hidx
      by_cases hlt : k < s.size
      · have hidx := idx9 s k hlt
        have HNx : Hid (_ = R) := HN.out.next hlt
        have hb := byteAt_bd s k
        have hki : (k : Int) < (s.size : Int) := by omega
        generalize byteAt s k = c at hidx HNx hb
        by_cases hc : nmC c = true
        · have HS : Hid (NameAt s (k + 1) R) := by have h := HNx.out; rw [hc, Bool.true_and] at h; exact h
          have hcc : (decide (65 ≤ c) && decide (c ≤ 90) || decide (97 ≤ c) && decide (c ≤ 122) || decide (48 ≤ c) && decide (c ≤ 57) || decide (c = 95)) = true := hc
          simp only [Bool.or_eq_true, Bool.and_eq_true, decide_eq_true_eq] at hcc
          clear HNx hc
          rcases hcc with ((hcc | hcc) | hcc) | hcc
          · have r1 : decide (65 ≤ c) = true := by simp; omega
            have r2 : decide (c ≤ 90) = true := by simp; omega
            clear hcc
            go_wp2
            go_round
            case rel => exact ⟨k + 1, by omega, by go_num, HS.out⟩
            case measure => simp [intOf]; omega
          · have r1 : decide (65 ≤ c) = true := by simp; omega
            have r2 : decide (c ≤ 90) = false := by simp; omega
            have r3 : decide (97 ≤ c) = true := by simp; omega
            have r4 : decide (c ≤ 122) = true := by simp; omega
            clear hcc
            go_wp2
            go_round
            case rel => exact ⟨k + 1, by omega, by go_num, HS.out⟩
            case measure => simp [intOf]; omega
          · have r1 : decide (65 ≤ c) = false := by simp; omega
            have r3 : decide (97 ≤ c) = false := by simp; omega
            have r5 : decide (48 ≤ c) = true := by simp; omega
            have r6 : decide (c ≤ 57) = true := by simp; omega
            clear hcc
            go_wp2
            go_round
            case rel => exact ⟨k + 1, by omega, by go_num, HS.out⟩
            case measure => simp [intOf]; omega
          · subst hcc
            go_wp2
            go_round
            case rel => exact ⟨k + 1, by omega, by go_num, HS.out⟩
            case measure => simp [intOf]; omega
        · have HS : Hid (false = R) := by have h := HNx.out; rw [show nmC c = false by simpa using hc, Bool.false_and] at h; exact h
          have hcc : ¬ ((decide (65 ≤ c) && decide (c ≤ 90) || decide (97 ≤ c) && decide (c ≤ 122) || decide (48 ≤ c) && decide (c ≤ 57) || decide (c = 95)) = true) := hc
          simp only [Bool.or_eq_true, Bool.and_eq_true, decide_eq_true_eq] at hcc
          have r7 : (c == 95) = false := by simp; omega
          clear HNx hc
          by_cases t1 : 65 ≤ c
          · have r1 : decide (65 ≤ c) = true := by simpa using t1
            have r2 : decide (c ≤ 90) = false := by simp; omega
            have r5 : decide (48 ≤ c) = true := by simp; omega
            have r6 : decide (c ≤ 57) = false := by simp; omega
            by_cases t2 : 97 ≤ c
            · have r3 : decide (97 ≤ c) = true := by simpa using t2
              have r4 : decide (c ≤ 122) = false := by simp; omega
              clear hcc t1 t2
              go_wp2
              go_ret
              exact ⟨ret_bool HS.out, rfl⟩
            · have r3 : decide (97 ≤ c) = false := by simpa using t2
              clear hcc t1 t2
              go_wp2
              go_ret
              exact ⟨ret_bool HS.out, rfl⟩
          · have r1 : decide (65 ≤ c) = false := by simpa using t1
            have r3 : decide (97 ≤ c) = false := by simp; omega
            by_cases t2 : 48 ≤ c
            · have r5 : decide (48 ≤ c) = true := by simpa using t2
              have r6 : decide (c ≤ 57) = false := by simp; omega
              clear hcc t1 t2
              go_wp2
              go_ret
              exact ⟨ret_bool HS.out, rfl⟩
            · have r5 : decide (48 ≤ c) = false := by simpa using t2
              clear hcc t1 t2
              go_wp2
              go_ret
              exact ⟨ret_bool HS.out, rfl⟩
      · have HS : Hid (true = R) := by
          have h := HN.out
          unfold NameAt at h
          rw [List.drop_eq_nil_of_le (by rw [sInts_len]; omega), List.all_nil] at h
          exact h
        have hki : ¬ (k : Int) < (s.size : Int) := by omega
        go_wp2
        go_ret
        exact ⟨ret_bool HS.out, rfl⟩

theorem r_name (s : ByteArray) (w : World) :
    Calls Tryz.prog 29 #[.string s] w fun e w' => e = .returned (.bool (nameR s)) ∧ w = w' := by
  by_cases h1 : s.size < 1
  · have e : nameR s = false := by unfold nameR; rw [decide_eq_false (by omega : ¬ 0 < s.size)]; simp
    rw [e]
    have q1 : decide ((s.size : Int) < 1) = true := by simp; omega
    clear e
    go_enter Tryz.func29, Tryz.ntmps29
    go_wp2
    go_ret
    exact ⟨rfl, rfl⟩
  · by_cases h2 : 64 < s.size
    · have e : nameR s = false := by unfold nameR; rw [decide_eq_false (by omega : ¬ s.size ≤ 64)]; simp
      rw [e]
      have q1 : decide ((s.size : Int) < 1) = false := by simp; omega
      have q2 : decide ((64 : Int) < (s.size : Int)) = true := by simp; omega
      clear e
      go_enter Tryz.func29, Tryz.ntmps29
      go_wp2
      go_ret
      exact ⟨rfl, rfl⟩
    · by_cases hd : 48 ≤ byteAt s 0 ∧ byteAt s 0 ≤ 57
      · have e : nameR s = false := by
          unfold nameR
          rw [show (decide (48 ≤ byteAt s 0) && decide (byteAt s 0 ≤ 57)) = true by simp [hd]]
          simp
        rw [e]
        have q1 : decide ((s.size : Int) < 1) = false := by simp; omega
        have q2 : decide ((64 : Int) < (s.size : Int)) = false := by simp; omega
        have hidx : ∀ w, (Instr.index 9 (.string s) (.int .i64 0)).run Tryz.prog w = .ok (.int .u8 (byteAt s 0)) w := idx9 s 0 (by omega)
        generalize byteAt s 0 = c0 at hd hidx
        have q4 : decide (48 ≤ c0) = true := by simpa using hd.1
        have q5 : decide (c0 ≤ 57) = true := by simpa using hd.2
        clear e hd
        go_enter Tryz.func29, Tryz.ntmps29
        go_wp2
        go_ret
        exact ⟨rfl, rfl⟩
      · have e : nameR s = (sInts s).all nmC := by
          unfold nameR
          rw [decide_eq_true (by omega : 0 < s.size), decide_eq_true (by omega : s.size ≤ 64), show (decide (48 ≤ byteAt s 0) && decide (byteAt s 0 ≤ 57)) = false by simp only [Bool.and_eq_false_iff, decide_eq_false_iff_not]; omega]
          simp
        rw [e]
        exact name_loop s _ w (by omega) (by omega) hd rfl
theorem lab_nm (c : Int) : labC c = nmC c := by
  unfold labC letB digB nmC
  rw [Bool.eq_iff_iff]
  simp only [Bool.or_eq_true, Bool.and_eq_true, decide_eq_true_eq]
  omega
theorem name_eq (s : ByteArray) : nameR s = nameB s := by
  have h : (sInts s).all labC = (sInts s).all nmC := by rw [funext lab_nm]
  unfold nameR nameB digB
  rw [h, Bool.eq_iff_iff]
  simp only [Bool.and_eq_true, decide_eq_true_eq]
  constructor
  · rintro ⟨⟨⟨h1, h2⟩, h3⟩, h4⟩; exact ⟨⟨⟨by omega, h2⟩, h4⟩, h3⟩
  · rintro ⟨⟨⟨h1, h2⟩, h4⟩, h3⟩; exact ⟨⟨⟨by omega, h2⟩, h3⟩, h4⟩
theorem r_name2 (s : ByteArray) (w : World) : Calls Tryz.prog 29 #[.string s] w fun e w' => e = .returned (.bool (nameB s)) ∧ w = w' := by
  have := r_name s w
  rw [name_eq] at this
  exact this
theorem r_parts (k : Int) (w : World) : Calls Tryz.prog 14 #[.int .i64 k] w fun e w' => e = .returned (.int .i64 (partsK k)) ∧ w = w' := by
  by_cases h : k = 1 ∨ k = 2 ∨ k = 3 ∨ k = 4 ∨ k = 5 ∨ k = 6 ∨ k = 7
  · rcases h with rfl | rfl | rfl | rfl | rfl | rfl | rfl
    all_goals
      go_enter Tryz.func14, Tryz.ntmps14
      go_wp2
      go_ret
      exact ⟨rfl, rfl⟩
  · have e : partsK k = -1 := by unfold partsK; rw [if_neg (by omega), if_neg (by omega), if_neg (by omega)]
    rw [e]
    have h1 : k ≠ 1 := by omega
    have h2 : k ≠ 2 := by omega
    have h3 : k ≠ 3 := by omega
    have h4 : k ≠ 4 := by omega
    have h5 : k ≠ 5 := by omega
    have h6 : k ≠ 6 := by omega
    have h7 : k ≠ 7 := by omega
    clear h e
    go_enter Tryz.func14, Tryz.ntmps14
    go_wp2
    go_ret
    exact ⟨rfl, rfl⟩
theorem r_spn (v l : Int) (w : World) : Calls Tryz.prog 28 #[.int .i64 v, .int .i64 l] w fun e w' => e = .returned (.bool (inB (l, 2147483647) v)) ∧ w = w' := by
  unfold inB
  by_cases h : l ≤ v
  · have q0 : decide (l ≤ v) = true := by simpa using h
    have Q0 := hid q0
    clear h
    go_enter Tryz.func28, Tryz.ntmps28
    go_wp2
    go_ret
    exact ⟨ret_bool (by rw [Q0.out, Bool.true_and]), rfl⟩
  · have q0 : decide (l ≤ v) = false := by simpa using h
    have Q0 := hid q0
    clear h
    go_enter Tryz.func28, Tryz.ntmps28
    go_wp2
    go_ret
    exact ⟨ret_bool (by rw [Q0.out, Bool.false_and]), rfl⟩
theorem r_names (a : Option Addr) (c : Nat) (l : List ByteArray) (w : World) (h : SRd strE w a l) (hl : l.length ≤ 9223372036854775807) :
    Calls Tryz.prog 26 #[.slice a l.length c] w fun e w' => e = .returned (.bool (l.all nameB)) ∧ w = w' := by
  have H := hid h
  obtain ⟨R, hR⟩ : ∃ R, l.all nameB = R := ⟨_, rfl⟩
  have HR := hid hR
  rw [hR]
  clear h hR
  go_enter Tryz.func26, Tryz.ntmps26
  go_wp2
  go_loop [3] (fun t3 => ∃ k : Nat, k ≤ l.length ∧ t3 = .int .i64 (k : Int) ∧ (l.take k).all nameB = true) (fun t3 => l.length - (intOf t3).toNat)
  case atStart => exact ⟨0, Nat.zero_le _, rfl, by simp⟩
  case round =>
    obtain ⟨k, hk, rfl, hj⟩ := hrel
    have HJ := hid hj
    clear hj
    by_cases hlt : k < l.length
    · have hki : (k : Int) < (l.length : Int) := by omega
      obtain ⟨x, hx⟩ : ∃ x, l[k]? = some x := ⟨_, List.getElem?_eq_getElem hlt⟩
      obtain ⟨bb, oo, ea, _⟩ := H.out.at (by omega)
      have hc := str_cell (by rw [← ea]; exact H.out) hx
      have HF : Hid (∀ w, Calls Tryz.prog 29 #[.string x] w fun e w' => e = .returned (.bool (nameB x)) ∧ w = w') := fun w => r_name2 x w
      have HT : Hid ((l.take (k + 1)).all nameB = ((l.take k).all nameB && nameB x)) := by
        show _ = _
        rw [List.take_add_one, hx]
        simp
      have HM : Hid (l.all nameB = true → nameB x = true) := fun h => by
        rw [List.all_eq_true] at h
        exact h x (List.mem_of_getElem? hx)
      subst ea
      clear hx
      cases hb : nameB x with
      | true =>
        rw [hb] at HF
        have HN : Hid ((l.take (k + 1)).all nameB = true) := by show _ = _; rw [HT.out, HJ.out, hb]; rfl
        clear hb
        go_wp2_with fail
        refine (HF.out _).mono ?_
        rintro e w2 ⟨rfl, rfl⟩
        go_wp2
        go_round
        case rel => exact ⟨k + 1, by omega, by go_num, HN.out⟩
        case measure => simp [intOf]; omega
      | false =>
        rw [hb] at HF
        have HN : Hid (R = false) := by
          show _ = _
          rw [← HR.out, Bool.eq_false_iff]
          intro h
          rw [HM.out h] at hb
          cases hb
        clear hb
        go_wp2_with fail
        refine (HF.out _).mono ?_
        rintro e w2 ⟨rfl, rfl⟩
        go_wp2
        go_ret
        exact ⟨ret_bool HN.out.symm, rfl⟩
    · have hki : ¬ (k : Int) < (l.length : Int) := by omega
      have HN : Hid (R = true) := by
        show _ = _
        have := HJ.out
        rw [List.take_of_length_le (by omega)] at this
        rw [← HR.out]
        exact this
      go_wp2
      go_ret
      exact ⟨ret_bool HN.out.symm, rfl⟩
end Go.Proofs.YthbodkgcbfplgaaGreat
