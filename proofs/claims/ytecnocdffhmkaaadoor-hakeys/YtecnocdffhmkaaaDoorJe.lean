/- Tenants' names; HaKeys: the walk. (Printed by mk_je.py.) -/
import Derived.Test.YtecnocdffhmkaaaDoorJc
import Derived.Test.YtecnocdffhmkaaaDoorMe
namespace Go.Proofs.YtecnocdffhmkaaaDoor
open Go.RowKit
set_option linter.unusedVariables false
set_option maxRecDepth 20000

def tenB (c : Int) : Bool := decide (97 ≤ c) && decide (c ≤ 122) || decide (48 ≤ c) && decide (c ≤ 57) || decide (c = 45)
def tenR (s : ByteArray) : Bool := (sInts s).all tenB && (decide (s ≠ noB) && decide (s.size ≤ 32))
def TenAt (s : ByteArray) (k : Nat) (R : Bool) : Prop := ((sInts s).drop k).all tenB = R
theorem TenAt.next {s : ByteArray} {k : Nat} {R : Bool} (h : TenAt s k R) (hk : k < s.size) : (tenB (byteAt s k) && ((sInts s).drop (k + 1)).all tenB) = R := by
  unfold TenAt at h
  have hl : k < (sInts s).length := by rw [sInts_len]; exact hk
  rw [List.drop_eq_getElem_cons hl, List.all_cons] at h
  have : byteAt s k = (sInts s)[k] := by
    unfold byteAt
    rw [List.getD_eq_getElem?_getD, List.getElem?_eq_getElem hl]
    rfl
  rw [this]
  exact h
theorem tenB_iff (c : Int) : tenB c = true ↔ (97 ≤ c ∧ c ≤ 122 ∨ 48 ≤ c ∧ c ≤ 57) ∨ c = 45 := by
  unfold tenB
  simp only [Bool.or_eq_true, Bool.and_eq_true, decide_eq_true_eq]
theorem six_classes (c : Int) : (97 ≤ c ∧ c ≤ 122) ∨ 122 < c ∨ (48 ≤ c ∧ c ≤ 57) ∨ (57 < c ∧ c < 97) ∨ c = 45 ∨ (c < 48 ∧ c ≠ 45) := by omega
set_option maxHeartbeats 1000000 in
theorem r_tenant (s : ByteArray) (w : World) (hs : s.size ≤ 140737488351232) : Calls Tryd.prog 30 #[.string s] w fun e w' => e = .returned (.bool (tenR s)) ∧ w = w' := by
  have HR : Hid (tenR s = ((sInts s).all tenB && (decide (s ≠ noB) && decide (s.size ≤ 32)))) := rfl
  have H0 : Hid (TenAt s 0 ((sInts s).all tenB)) := by show TenAt _ _ _; unfold TenAt; rfl
  generalize (sInts s).all tenB = A at H0 HR
  have hn0 := str_ne0 s
  generalize tenR s = R at HR ⊢
  go_enter Tryd.func30, Tryd.ntmps30
  go_wp2
  go_loop [3] (fun i => ∃ k : Nat, k ≤ s.size ∧ i = .int .i64 k ∧ TenAt s k A) (fun i => s.size - (intOf i).toNat)
  case atStart => exact ⟨0, Nat.zero_le _, rfl, H0.out⟩
  case round =>
    obtain ⟨k, hk, rfl, hn⟩ := hrel
    have HN : Hid (TenAt s k A) := hn
    clear hn H0
    by_cases hlt : k < s.size
    · have hidx := idx9 s k hlt
      have HNx : Hid (_ = A) := HN.out.next hlt
      have hki : (k : Int) < (s.size : Int) := by omega
      generalize byteAt s k = c at hidx HNx
      have hl := tenB_iff c
      clear hn0
      rcases six_classes c with h | h | h | h | h | h
      · have HS : Hid (TenAt s (k + 1) A) := by have h2 := HNx.out; rw [hl.2 (by omega), Bool.true_and] at h2; exact h2
        clear HNx hl
        have r0 : decide (97 ≤ c) = true := by simp; omega
        have r1 : decide (c ≤ 122) = true := by simp; omega
        clear h
        go_wp2
        go_round
        case rel => exact ⟨k + 1, by omega, by go_num, HS.out⟩
        case measure => simp [intOf]; omega
      · have HS : Hid (false = R) := by
          have h2 := HNx.out
          rw [show tenB c = false by (cases hb : tenB c with | false => rfl | true => rw [hb] at hl; simp at hl; omega), Bool.false_and] at h2
          show _ = _
          rw [HR.out, ← h2]
          rfl
        clear HNx hl
        have r0 : decide (97 ≤ c) = true := by simp; omega
        have r1 : decide (c ≤ 122) = false := by simp; omega
        have r2 : decide (48 ≤ c) = true := by simp; omega
        have r3 : decide (c ≤ 57) = false := by simp; omega
        have r4 : (c == 45) = false := by simp; omega
        clear h
        go_wp2
        go_ret
        exact ⟨ret_bool HS.out, rfl⟩
      · have HS : Hid (TenAt s (k + 1) A) := by have h2 := HNx.out; rw [hl.2 (by omega), Bool.true_and] at h2; exact h2
        clear HNx hl
        have r0 : decide (97 ≤ c) = false := by simp; omega
        have r1 : decide (48 ≤ c) = true := by simp; omega
        have r2 : decide (c ≤ 57) = true := by simp; omega
        clear h
        go_wp2
        go_round
        case rel => exact ⟨k + 1, by omega, by go_num, HS.out⟩
        case measure => simp [intOf]; omega
      · have HS : Hid (false = R) := by
          have h2 := HNx.out
          rw [show tenB c = false by (cases hb : tenB c with | false => rfl | true => rw [hb] at hl; simp at hl; omega), Bool.false_and] at h2
          show _ = _
          rw [HR.out, ← h2]
          rfl
        clear HNx hl
        have r0 : decide (97 ≤ c) = false := by simp; omega
        have r1 : decide (48 ≤ c) = true := by simp; omega
        have r2 : decide (c ≤ 57) = false := by simp; omega
        have r3 : (c == 45) = false := by simp; omega
        clear h
        go_wp2
        go_ret
        exact ⟨ret_bool HS.out, rfl⟩
      · have HS : Hid (TenAt s (k + 1) A) := by have h2 := HNx.out; rw [hl.2 (by omega), Bool.true_and] at h2; exact h2
        clear HNx hl
        subst h
        go_wp2
        go_round
        case rel => exact ⟨k + 1, by omega, by go_num, HS.out⟩
        case measure => simp [intOf]; omega
      · have HS : Hid (false = R) := by
          have h2 := HNx.out
          rw [show tenB c = false by (cases hb : tenB c with | false => rfl | true => rw [hb] at hl; simp at hl; omega), Bool.false_and] at h2
          show _ = _
          rw [HR.out, ← h2]
          rfl
        clear HNx hl
        have r0 : decide (97 ≤ c) = false := by simp; omega
        have r1 : decide (48 ≤ c) = false := by simp; omega
        have r2 : (c == 45) = false := by simp; omega
        clear h
        go_wp2
        go_ret
        exact ⟨ret_bool HS.out, rfl⟩
    · have hA : true = A := by
        have h := HN.out
        unfold TenAt at h
        rw [List.drop_eq_nil_of_le (by rw [sInts_len]; omega), List.all_nil] at h
        exact h
      have HR2 : Hid ((decide (s ≠ noB) && decide (s.size ≤ 32)) = R) := by show _ = _; rw [HR.out, ← hA]; rfl
      have hki : ¬ (k : Int) < (s.size : Int) := by omega
      clear hA HN
      by_cases h0 : s = noB
      · rw [decide_eq_true h0] at hn0
        have hn0' : (s.toList != []) = false := by simp [bne, hn0]
        have HS : Hid (false = R) := by show _ = _; rw [← HR2.out, h0]; rfl
        clear h0 HR2
        go_wp2
        go_ret
        exact ⟨ret_bool HS.out, rfl⟩
      · rw [decide_eq_false h0] at hn0
        have hn0' : (s.toList != []) = true := by simp [bne, hn0]
        by_cases h32 : s.size ≤ 32
        · have q3 : decide ((s.size : Int) ≤ 32) = true := by simp; omega
          have HS : Hid (true = R) := by show _ = _; rw [← HR2.out]; simp [h0, h32]
          clear h0 HR2
          go_wp2
          go_ret
          exact ⟨ret_bool HS.out, rfl⟩
        · have q3 : decide ((s.size : Int) ≤ 32) = false := by simp; omega
          have HS : Hid (false = R) := by show _ = _; rw [← HR2.out]; simp [h32]
          clear h0 HR2
          go_wp2
          go_ret
          exact ⟨ret_bool HS.out, rfl⟩
theorem app_right {x y z : ByteArray} (h : x ++ z = y ++ z) : x = y := by
  apply ByteArray.ext
  have h2 := congrArg (fun b => b.data.toList) h
  simp only [ByteArray.data_append, Array.toList_append] at h2
  exact Array.toList_inj.1 (List.append_cancel_right h2)
theorem app_left {x y z : ByteArray} (h : z ++ x = z ++ y) : x = y := by
  apply ByteArray.ext
  have h2 := congrArg (fun b => b.data.toList) h
  simp only [ByteArray.data_append, Array.toList_append] at h2
  exact Array.toList_inj.1 (List.append_cancel_left h2)
theorem key_inj {a b c : ByteArray} (h : keyR a c = keyR b c) : a = b := app_left (app_right (app_right h))
theorem key_max (t c : ByteArray) : (keyR t c).size ≤ 24 + t.size := by
  have h1 := dig_size (hashN c) (by have := (hashN_eq c).2; omega)
  have h3 : (⟨#[104, 97, 47]⟩ : ByteArray).size = 3 := rfl
  have h4 : (⟨#[47]⟩ : ByteArray).size = 1 := rfl
  unfold keyR
  rw [ByteArray.size_append, ByteArray.size_append, ByteArray.size_append, h3, h4]
  omega
theorem ten_size {s : ByteArray} (h : tenR s = true) : s.size ≤ 32 := by
  unfold tenR at h
  simp only [Bool.and_eq_true, decide_eq_true_eq] at h
  exact h.2.2
set_option maxHeartbeats 4000000 in
theorem haKeys_walk (a b c : ByteArray) (w : World) (ha : a.size ≤ 140737488351232) (hb : b.size ≤ 140737488351232) (hc : c.size ≤ 140737488351232) (htab : Tab w) :
    Calls Tryd.prog 7 #[.string a, .string b, .string c] w fun e w' => e = .returned (.bool true) ∧ w.grownBy w' none := by
  have HA : Hid (∀ w1, Calls Tryd.prog 30 #[.string a] w1 fun e w' => e = .returned (.bool (tenR a)) ∧ w1 = w') := fun w1 => r_tenant a w1 ha
  have HB : Hid (∀ w1, Calls Tryd.prog 30 #[.string b] w1 fun e w' => e = .returned (.bool (tenR b)) ∧ w1 = w') := fun w1 => r_tenant b w1 hb
  have HT : Hid (Tab w) := htab
  have HAW : Hid (∀ w1, w.grownBy w1 none → Calls Tryd.prog 13 #[] w1 fun e w' => e = .returned (.bool true) ∧ w1.grownBy w' none) := fun w1 hg => h_awake w1 (HT.out.grown hg)
  have HKA : Hid (∀ w1, w.grownBy w1 none → Calls Tryd.prog 21 #[.string a, .string c] w1 fun e w' => e = .returned (.string (keyR a c)) ∧ w1.grownBy w' none) := fun w1 hg => f_key a c w1 ha hc (HT.out.grown hg)
  have HKB : Hid (∀ w1, w.grownBy w1 none → Calls Tryd.prog 21 #[.string b, .string c] w1 fun e w' => e = .returned (.string (keyR b c)) ∧ w1.grownBy w' none) := fun w1 hg => f_key b c w1 hb hc (HT.out.grown hg)
  clear htab
  cases hta : tenR a with
  | false =>
    rw [hta] at HA
    clear hta HB HKA HKB
    go_enter Tryd.func7, Tryd.ntmps7
    go_wp2_with (first
      | (go_at_call 30; refine (HA.out _).mono ?_; rintro e w1 ⟨rfl, rfl⟩)
      | (go_at_call 13; refine (HAW.out _ (World.grownBy.refl _ _)).mono ?_; rintro e w2 ⟨rfl, hg2⟩))
    go_ret
    exact ⟨rfl, hg2⟩
  | true =>
    rw [hta] at HA
    cases htb : tenR b with
    | false =>
      rw [htb] at HB
      clear hta htb HKA HKB
      go_enter Tryd.func7, Tryd.ntmps7
      go_wp2_with fail
      refine (HA.out _).mono ?_
      rintro e w1 ⟨rfl, rfl⟩
      go_wp2_with fail
      refine (HB.out _).mono ?_
      rintro e w1 ⟨rfl, rfl⟩
      go_wp2_with fail
      refine (HAW.out _ (World.grownBy.refl _ _)).mono ?_
      rintro e w2 ⟨rfl, hg2⟩
      go_wp2
      go_ret
      exact ⟨rfl, hg2⟩
    | true =>
      rw [htb] at HB
      have ks := key_size a c
      have km := key_max a c
      have ta := ten_size hta
      have q1 : decide ((1 : Int) ≤ ((keyR a c).size : Int)) = true := by simp; omega
      have q2 : decide (((keyR a c).size : Int) ≤ 64) = true := by simp; omega
      have hkk := str_eq (keyR a c) (keyR b c)
      have hab := str_eq a b
      have HEQ : Hid (decide (keyR a c = keyR b c) = decide (a = b)) := by
        show _ = _
        by_cases h : a = b
        · rw [decide_eq_true h, decide_eq_true (by rw [h])]
        · rw [decide_eq_false h, decide_eq_false (fun h2 => h (key_inj h2))]
      rw [HEQ.out] at hkk
      have hkb : (keyR b c).size ≤ 140737488355000 := by have := key_max b c; have := ten_size htb; omega
      clear HEQ hta htb
      generalize keyR a c = X at HKA ks km q1 q2 hkk
      generalize keyR b c = Y at HKB hkk hkb
      generalize decide (a = b) = dab at hab hkk
      go_enter Tryd.func7, Tryd.ntmps7
      go_wp2_with fail
      refine (HA.out _).mono ?_
      rintro e w1 ⟨rfl, rfl⟩
      go_wp2_with fail
      refine (HB.out _).mono ?_
      rintro e w1 ⟨rfl, rfl⟩
      go_wp2_with fail
      refine (HKA.out _ (World.grownBy.refl _ _)).mono ?_
      rintro e w2 ⟨rfl, hg2⟩
      have HG2 : Hid (w.grownBy w2 none) := hg2
      clear hg2
      go_wp2_with fail
      refine (HKB.out _ HG2.out).mono ?_
      rintro e w3 ⟨rfl, hg3⟩
      have HG3 : Hid (w.grownBy w3 none) := HG2.out.trans hg3
      clear hg3
      go_wp2_with fail
      refine (HKA.out _ HG3.out).mono ?_
      rintro e w4 ⟨rfl, hg4⟩
      have HG4 : Hid (w.grownBy w4 none) := HG3.out.trans hg4
      clear hg4
      go_wp2_with fail
      refine (HAW.out _ HG4.out).mono ?_
      rintro e w5 ⟨rfl, hg5⟩
      go_wp2
      go_ret
      exact ⟨rfl, HG4.out.trans hg5⟩
end Go.Proofs.YtecnocdffhmkaaaDoor
