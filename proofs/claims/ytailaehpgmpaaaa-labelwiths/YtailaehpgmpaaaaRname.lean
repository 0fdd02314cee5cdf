/- The document's own Name, Valid, Check. -/
import Derived.Test.YtailaehpgmpaaaaRsome
import Derived.Test.YtailaehpgmpaaaaCtext
namespace Go.Proofs.Ytailaehpgmpaaaa
open Go.RowKit
set_option linter.unusedVariables false

/-- The byte at a place of a text. -/
def byteAt (s : ByteArray) (i : Nat) : Int := (sInts s).getD i 0
theorem byteAt_eq (s : ByteArray) (i : Nat) (hi : i < s.size) : (s[i].toNat : Int) = byteAt s i := by
  unfold byteAt sInts
  rw [List.getD_eq_getElem?_getD, List.getElem?_map]
  have h : s.data.toList[i]? = some s[i] := by
    rw [Array.getElem?_toList]
    exact Array.getElem?_eq_getElem hi
  rw [h]
  rfl
theorem byteAt_bd (s : ByteArray) (i : Nat) : 0 ≤ byteAt s i ∧ byteAt s i ≤ 255 := by
  unfold byteAt
  rw [List.getD_eq_getElem?_getD]
  cases h : (sInts s)[i]? with
  | none => simp
  | some z => exact sInts_byte s z (List.mem_of_getElem? h)
theorem idx9 (s : ByteArray) (i : Nat) (hi : i < s.size) (w : World) : (Instr.index 9 (.string s) (.int .i64 (i : Int))).run Try.prog w = .ok (.int .u8 (byteAt s i)) w := by
  rw [run_index_string w 9 s .i64 (i : Int) Try.underlying9]
  simp [hi, byteAt_eq s i hi]
def nameB (c : Int) : Bool := decide (65 ≤ c) && decide (c ≤ 90) || decide (97 ≤ c) && decide (c ≤ 122) || decide (48 ≤ c) && decide (c ≤ 57) || decide (c = 95)
def nameR (s : ByteArray) : Bool := decide (0 < s.size) && decide (s.size ≤ 64) && !(decide (48 ≤ byteAt s 0) && decide (byteAt s 0 ≤ 57)) && (sInts s).all nameB
def NameAt (s : ByteArray) (k : Nat) (R : Bool) : Prop := ((sInts s).drop k).all nameB = R
theorem NameAt.next {s : ByteArray} {k : Nat} {R : Bool} (h : NameAt s k R) (hk : k < s.size) : (nameB (byteAt s k) && ((sInts s).drop (k + 1)).all nameB) = R := by
  unfold NameAt at h
  have hl : k < (sInts s).length := by rw [sInts_len]; exact hk
  rw [List.drop_eq_getElem_cons hl, List.all_cons] at h
  have : byteAt s k = (sInts s)[k] := by
    unfold byteAt
    rw [List.getD_eq_getElem?_getD, List.getElem?_eq_getElem hl]
    rfl
  rw [this]
  exact h

set_option maxHeartbeats 1000000 in
theorem name_loop (s : ByteArray) (R : Bool) (w : World) (h1 : 1 ≤ s.size) (h2 : s.size ≤ 64) (hd : ¬ (48 ≤ byteAt s 0 ∧ byteAt s 0 ≤ 57)) (hR : (sInts s).all nameB = R) :
    Calls Try.prog 48 #[.string s] w fun e w' => e = .returned (.bool R) ∧ w = w' := by
  have H0 : Hid (NameAt s 0 R) := hR
  have e0 := byteAt_eq s 0 (by omega)
  clear hR
  have q1 : decide ((s.size : Int) < 1) = false := by simp; omega
  have q2 : decide ((64 : Int) < (s.size : Int)) = false := by simp; omega
  have hidx : ∀ w, (Instr.index 9 (.string s) (.int .i64 0)).run Try.prog w = .ok (.int .u8 (byteAt s 0)) w := idx9 s 0 (by omega)
  generalize byteAt s 0 = c0 at hd hidx e0
  by_cases h48 : 48 ≤ c0
  · have h57 : ¬ c0 ≤ 57 := by omega
    have q4 : decide (48 ≤ c0) = true := by simpa using h48
    have q5 : decide (c0 ≤ 57) = false := by simpa using h57
    clear hd h48 h57 e0
    go_enter Try.func48, Try.ntmps48
    go_wp2
    go_loop [3] (fun i => ∃ k : Nat, k ≤ s.size ∧ i = .int .i64 k ∧ NameAt s k R) (fun i => s.size - (intOf i).toNat)
    case atStart => exact ⟨0, Nat.zero_le _, rfl, H0.out⟩
    case round =>
      obtain ⟨k, hk, rfl, hn⟩ := hrel
      have HN : Hid (NameAt s k R) := hn
      clear hn H0 hidx
      by_cases hlt : k < s.size
      · have hidx := idx9 s k hlt
        have HNx : Hid (_ = R) := HN.out.next hlt
        have hb := byteAt_bd s k
        have hki : (k : Int) < (s.size : Int) := by omega
        generalize byteAt s k = c at hidx HNx hb
        by_cases hc : nameB c = true
        · have HS : Hid (NameAt s (k + 1) R) := by have h := HNx.out; rw [hc, Bool.true_and] at h; exact h
          have hcc : (decide (65 ≤ c) && decide (c ≤ 90) || decide (97 ≤ c) && decide (c ≤ 122) || decide (48 ≤ c) && decide (c ≤ 57) || decide (c = 95)) = true := hc
          simp only [Bool.or_eq_true, Bool.and_eq_true, decide_eq_true_eq] at hcc
          clear HNx hc
          rcases hcc with ((hcc | hcc) | hcc) | hcc
          · have r1 : decide (65 ≤ c) = true := by simp; omega
            have r2 : decide (c ≤ 90) = true := by simp; omega
            clear hcc
            go_wp2
            go_round
            case rel => exact ⟨k + 1, by omega, by go_num, HS.out⟩
            case measure => simp [intOf]; omega
          · have r1 : decide (65 ≤ c) = true := by simp; omega
            have r2 : decide (c ≤ 90) = false := by simp; omega
            have r3 : decide (97 ≤ c) = true := by simp; omega
            have r4 : decide (c ≤ 122) = true := by simp; omega
            clear hcc
            go_wp2
            go_round
            case rel => exact ⟨k + 1, by omega, by go_num, HS.out⟩
            case measure => simp [intOf]; omega
          · have r1 : decide (65 ≤ c) = false := by simp; omega
            have r3 : decide (97 ≤ c) = false := by simp; omega
            have r5 : decide (48 ≤ c) = true := by simp; omega
            have r6 : decide (c ≤ 57) = true := by simp; omega
            clear hcc
            go_wp2
            go_round
            case rel => exact ⟨k + 1, by omega, by go_num, HS.out⟩
            case measure => simp [intOf]; omega
          · subst hcc
            go_wp2
            go_round
            case rel => exact ⟨k + 1, by omega, by go_num, HS.out⟩
            case measure => simp [intOf]; omega
        · have HS : Hid (false = R) := by have h := HNx.out; rw [show nameB c = false by simpa using hc, Bool.false_and] at h; exact h
          have hcc : ¬ ((decide (65 ≤ c) && decide (c ≤ 90) || decide (97 ≤ c) && decide (c ≤ 122) || decide (48 ≤ c) && decide (c ≤ 57) || decide (c = 95)) = true) := hc
          simp only [Bool.or_eq_true, Bool.and_eq_true, decide_eq_true_eq] at hcc
          have r7 : (c == 95) = false := by simp; omega
          clear HNx hc
          by_cases t1 : 65 ≤ c
          · have r1 : decide (65 ≤ c) = true := by simpa using t1
            have r2 : decide (c ≤ 90) = false := by simp; omega
            have r5 : decide (48 ≤ c) = true := by simp; omega
            have r6 : decide (c ≤ 57) = false := by simp; omega
            by_cases t2 : 97 ≤ c
            · have r3 : decide (97 ≤ c) = true := by simpa using t2
              have r4 : decide (c ≤ 122) = false := by simp; omega
              clear hcc t1 t2
              go_wp2
              go_ret
              exact ⟨ret_bool HS.out, rfl⟩
            · have r3 : decide (97 ≤ c) = false := by simpa using t2
              clear hcc t1 t2
              go_wp2
              go_ret
              exact ⟨ret_bool HS.out, rfl⟩
          · have r1 : decide (65 ≤ c) = false := by simpa using t1
            have r3 : decide (97 ≤ c) = false := by simp; omega
            by_cases t2 : 48 ≤ c
            · have r5 : decide (48 ≤ c) = true := by simpa using t2
              have r6 : decide (c ≤ 57) = false := by simp; omega
              clear hcc t1 t2
              go_wp2
              go_ret
              exact ⟨ret_bool HS.out, rfl⟩
            · have r5 : decide (48 ≤ c) = false := by simpa using t2
              clear hcc t1 t2
              go_wp2
              go_ret
              exact ⟨ret_bool HS.out, rfl⟩
      · have HS : Hid (true = R) := by
          have h := HN.out
          unfold NameAt at h
          rw [List.drop_eq_nil_of_le (by rw [sInts_len]; omega), List.all_nil] at h
          exact h
        have hki : ¬ (k : Int) < (s.size : Int) := by omega
        go_wp2
        go_ret
        exact ⟨ret_bool HS.out, rfl⟩
  · have q4 : decide (48 ≤ c0) = false := by simpa using h48
    clear hd h48 e0
    go_enter Try.func48, Try.ntmps48
    go_wp2
    go_loop [3] (fun i => ∃ k : Nat, k ≤ s.size ∧ i = .int .i64 k ∧ NameAt s k R) (fun i => s.size - (intOf i).toNat)
    case atStart => exact ⟨0, Nat.zero_le _, rfl, H0.out⟩
    case round =>
      obtain ⟨k, hk, rfl, hn⟩ := hrel
      have HN : Hid (NameAt s k R) := hn
      clear hn H0 hidx
      by_cases hlt : k < s.size
      · have hidx := idx9 s k hlt
        have HNx : Hid (_ = R) := HN.out.next hlt
        have hb := byteAt_bd s k
        have hki : (k : Int) < (s.size : Int) := by omega
        generalize byteAt s k = c at hidx HNx hb
        by_cases hc : nameB c = true
        · have HS : Hid (NameAt s (k + 1) R) := by have h := HNx.out; rw [hc, Bool.true_and] at h; exact h
          have hcc : (decide (65 ≤ c) && decide (c ≤ 90) || decide (97 ≤ c) && decide (c ≤ 122) || decide (48 ≤ c) && decide (c ≤ 57) || decide (c = 95)) = true := hc
          simp only [Bool.or_eq_true, Bool.and_eq_true, decide_eq_true_eq] at hcc
          clear HNx hc
          rcases hcc with ((hcc | hcc) | hcc) | hcc
          · have r1 : decide (65 ≤ c) = true := by simp; omega
            have r2 : decide (c ≤ 90) = true := by simp; omega
            clear hcc
            go_wp2
            go_round
            case rel => exact ⟨k + 1, by omega, by go_num, HS.out⟩
            case measure => simp [intOf]; omega
          · have r1 : decide (65 ≤ c) = true := by simp; omega
            have r2 : decide (c ≤ 90) = false := by simp; omega
            have r3 : decide (97 ≤ c) = true := by simp; omega
            have r4 : decide (c ≤ 122) = true := by simp; omega
            clear hcc
            go_wp2
            go_round
            case rel => exact ⟨k + 1, by omega, by go_num, HS.out⟩
            case measure => simp [intOf]; omega
          · have r1 : decide (65 ≤ c) = false := by simp; omega
            have r3 : decide (97 ≤ c) = false := by simp; omega
            have r5 : decide (48 ≤ c) = true := by simp; omega
            have r6 : decide (c ≤ 57) = true := by simp; omega
            clear hcc
            go_wp2
            go_round
            case rel => exact ⟨k + 1, by omega, by go_num, HS.out⟩
            case measure => simp [intOf]; omega
          · subst hcc
            go_wp2
            go_round
            case rel => exact ⟨k + 1, by omega, by go_num, HS.out⟩
            case measure => simp [intOf]; omega
        · have HS : Hid (false = R) := by have h := HNx.out; rw [show nameB c = false by simpa using hc, Bool.false_and] at h; exact h
          have hcc : ¬ ((decide (65 ≤ c) && decide (c ≤ 90) || decide (97 ≤ c) && decide (c ≤ 122) || decide (48 ≤ c) && decide (c ≤ 57) || decide (c = 95)) = true) := hc
          simp only [Bool.or_eq_true, Bool.and_eq_true, decide_eq_true_eq] at hcc
          have r7 : (c == 95) = false := by simp; omega
          clear HNx hc
          by_cases t1 : 65 ≤ c
          · have r1 : decide (65 ≤ c) = true := by simpa using t1
            have r2 : decide (c ≤ 90) = false := by simp; omega
            have r5 : decide (48 ≤ c) = true := by simp; omega
            have r6 : decide (c ≤ 57) = false := by simp; omega
            by_cases t2 : 97 ≤ c
            · have r3 : decide (97 ≤ c) = true := by simpa using t2
              have r4 : decide (c ≤ 122) = false := by simp; omega
              clear hcc t1 t2
              go_wp2
              go_ret
              exact ⟨ret_bool HS.out, rfl⟩
            · have r3 : decide (97 ≤ c) = false := by simpa using t2
              clear hcc t1 t2
              go_wp2
              go_ret
              exact ⟨ret_bool HS.out, rfl⟩
          · have r1 : decide (65 ≤ c) = false := by simpa using t1
            have r3 : decide (97 ≤ c) = false := by simp; omega
            by_cases t2 : 48 ≤ c
            · have r5 : decide (48 ≤ c) = true := by simpa using t2
              have r6 : decide (c ≤ 57) = false := by simp; omega
              clear hcc t1 t2
              go_wp2
              go_ret
              exact ⟨ret_bool HS.out, rfl⟩
            · have r5 : decide (48 ≤ c) = false := by simpa using t2
              clear hcc t1 t2
              go_wp2
              go_ret
              exact ⟨ret_bool HS.out, rfl⟩
      · have HS : Hid (true = R) := by
          have h := HN.out
          unfold NameAt at h
          rw [List.drop_eq_nil_of_le (by rw [sInts_len]; omega), List.all_nil] at h
          exact h
        have hki : ¬ (k : Int) < (s.size : Int) := by omega
        go_wp2
        go_ret
        exact ⟨ret_bool HS.out, rfl⟩

theorem r_name (s : ByteArray) (w : World) :
    Calls Try.prog 48 #[.string s] w fun e w' => e = .returned (.bool (nameR s)) ∧ w = w' := by
  by_cases h1 : s.size < 1
  · have e : nameR s = false := by unfold nameR; rw [decide_eq_false (by omega : ¬ 0 < s.size)]; simp
    rw [e]
    have q1 : decide ((s.size : Int) < 1) = true := by simp; omega
    clear e
    go_enter Try.func48, Try.ntmps48
    go_wp2
    go_ret
    exact ⟨rfl, rfl⟩
  · by_cases h2 : 64 < s.size
    · have e : nameR s = false := by unfold nameR; rw [decide_eq_false (by omega : ¬ s.size ≤ 64)]; simp
      rw [e]
      have q1 : decide ((s.size : Int) < 1) = false := by simp; omega
      have q2 : decide ((64 : Int) < (s.size : Int)) = true := by simp; omega
      clear e
      go_enter Try.func48, Try.ntmps48
      go_wp2
      go_ret
      exact ⟨rfl, rfl⟩
    · by_cases hd : 48 ≤ byteAt s 0 ∧ byteAt s 0 ≤ 57
      · have e : nameR s = false := by
          unfold nameR
          rw [show (decide (48 ≤ byteAt s 0) && decide (byteAt s 0 ≤ 57)) = true by simp [hd]]
          simp
        rw [e]
        have q1 : decide ((s.size : Int) < 1) = false := by simp; omega
        have q2 : decide ((64 : Int) < (s.size : Int)) = false := by simp; omega
        have hidx : ∀ w, (Instr.index 9 (.string s) (.int .i64 0)).run Try.prog w = .ok (.int .u8 (byteAt s 0)) w := idx9 s 0 (by omega)
        generalize byteAt s 0 = c0 at hd hidx
        have q4 : decide (48 ≤ c0) = true := by simpa using hd.1
        have q5 : decide (c0 ≤ 57) = true := by simpa using hd.2
        clear e hd
        go_enter Try.func48, Try.ntmps48
        go_wp2
        go_ret
        exact ⟨rfl, rfl⟩
      · have e : nameR s = (sInts s).all nameB := by
          unfold nameR
          rw [decide_eq_true (by omega : 0 < s.size), decide_eq_true (by omega : s.size ≤ 64), show (decide (48 ≤ byteAt s 0) && decide (byteAt s 0 ≤ 57)) = false by simp only [Bool.and_eq_false_iff, decide_eq_false_iff_not]; omega]
          simp
        rw [e]
        exact name_loop s _ w (by omega) (by omega) hd rfl
end Go.Proofs.Ytailaehpgmpaaaa
