/- The document's sign. (Printed by mk_re.py.) -/
import Derived.Test.YtkocdmkojoefoaaRa
namespace Go.Proofs.Ytkocdmkojoefoaa
open Go.RowKit
set_option linter.unusedVariables false
set_option maxRecDepth 20000

theorem bytes2 (s : ByteArray) (k : Nat) (h : k + 1 < s.size) : ((sInts s).drop k) = byteAt s k :: byteAt s (k + 1) :: (sInts s).drop (k + 2) := by rw [drop_byte s k (by omega), drop_byte s (k + 1) h]
theorem sub2 (s : ByteArray) (k : Nat) (h : k + 1 < s.size) : strOfNums (((sInts s).drop k).take (k + 2 - k)) = strOfNums [byteAt s k, byteAt s (k + 1)] := by
  rw [bytes2 s k h, show k + 2 - k = 2 by omega]
  rfl
theorem two_eq (c d a b : Int) (hc : 0 ≤ c ∧ c ≤ 255) (hd : 0 ≤ d ∧ d ≤ 255) (ha : 0 ≤ a ∧ a ≤ 255) (hb : 0 ≤ b ∧ b ≤ 255) (t : ByteArray) (ht : t = strOfNums [a, b]) (l : List UInt8) (hl : t.toList = l) : ((strOfNums [c, d]).toList == l) = decide (c = a ∧ d = b) := by
  rw [← hl, str_eq, ht]
  congr 1
  rw [eq_iff_iff]
  constructor
  · intro e
    have h1 : sInts (strOfNums [c, d]) = sInts (strOfNums [a, b]) := by rw [e]
    rw [sInts_str (by simp; omega), sInts_str (by simp; omega)] at h1
    simpa using h1
  · rintro ⟨rfl, rfl⟩; rfl
theorem one_tail (c : Int) (R : Nat) (h : R = if sign1 c = true then 1 else 0) : (sign1 c = true → R = 1) ∧ (sign1 c = false → R = 0) := ⟨fun e => by rw [h, if_pos e], fun e => by rw [h, e]; rfl⟩
set_option maxHeartbeats 8000000 in
theorem r_sign (s : ByteArray) (k : Nat) (w : World) (hs : s.size ≤ 4096) (hk : k < s.size) : Calls Try.prog 22 #[.string s, .int .i64 (k : Int)] w fun e w' => e = .returned (.int .i64 (signN ((sInts s).drop k) : Int)) ∧ w = w' := by
  have hidx := idx9 s k hk
  have hbk := byteAt_bd s k
  have hki : (k : Int) < (s.size : Int) := by omega
  by_cases h2 : k + 1 < s.size
  · have hsl := sl_lh s k (k + 2) (by omega) (by omega)
    rw [sub2 s k h2] at hsl
    rw [show ((k + 2 : Nat) : Int) = (k : Int) + 2 by omega] at hsl
    have hki2 : (k : Int) + 1 < (s.size : Int) := by omega
    have hR : signN ((sInts s).drop k) = if sign2 (byteAt s k) (byteAt s (k + 1)) = true then 2 else if sign1 (byteAt s k) = true then 1 else 0 := by rw [bytes2 s k h2]; rfl
    have hbd := byteAt_bd s (k + 1)
    generalize signN ((sInts s).drop k) = R at hR ⊢
    generalize byteAt s (k + 1) = d at hsl hR hbd
    generalize byteAt s k = c at hidx hbk hsl hR
    have g0 := two_eq c d 61 61 hbk hbd (by decide) (by decide) ⟨#[61, 61]⟩ rfl [61, 61] (by rw [ByteArray.toList_eq])
    have g1 := two_eq c d 33 61 hbk hbd (by decide) (by decide) ⟨#[33, 61]⟩ rfl [33, 61] (by rw [ByteArray.toList_eq])
    have g2 := two_eq c d 60 61 hbk hbd (by decide) (by decide) ⟨#[60, 61]⟩ rfl [60, 61] (by rw [ByteArray.toList_eq])
    have g3 := two_eq c d 62 61 hbk hbd (by decide) (by decide) ⟨#[62, 61]⟩ rfl [62, 61] (by rw [ByteArray.toList_eq])
    have g4 := two_eq c d 61 126 hbk hbd (by decide) (by decide) ⟨#[61, 126]⟩ rfl [61, 126] (by rw [ByteArray.toList_eq])
    have g5 := two_eq c d 33 126 hbk hbd (by decide) (by decide) ⟨#[33, 126]⟩ rfl [33, 126] (by rw [ByteArray.toList_eq])
    generalize strOfNums [c, d] = t at hsl g0 g1 g2 g3 g4 g5
    cases hs2 : sign2 c d with
    | true =>
      have HF : Hid (R = 2) := by show _ = _; rw [hR, hs2]; rfl
      unfold sign2 at hs2
      simp only [Bool.or_eq_true] at hs2
      clear hR
      cases x0 : decide (c = 61 ∧ d = 61) with
      | true =>
        rw [x0] at g0
        clear x0 hs2
        go_enter Try.func22, Try.ntmps22
        go_wp2
        go_ret
        exact ⟨ret_int (by rw [HF.out]; rfl), rfl⟩
      | false =>
      rw [x0] at g0 hs2
      cases x1 : decide (c = 33 ∧ d = 61) with
      | true =>
        rw [x1] at g1
        clear x1 hs2
        go_enter Try.func22, Try.ntmps22
        go_wp2
        go_ret
        exact ⟨ret_int (by rw [HF.out]; rfl), rfl⟩
      | false =>
      rw [x1] at g1 hs2
      cases x2 : decide (c = 60 ∧ d = 61) with
      | true =>
        rw [x2] at g2
        clear x2 hs2
        go_enter Try.func22, Try.ntmps22
        go_wp2
        go_ret
        exact ⟨ret_int (by rw [HF.out]; rfl), rfl⟩
      | false =>
      rw [x2] at g2 hs2
      cases x3 : decide (c = 62 ∧ d = 61) with
      | true =>
        rw [x3] at g3
        clear x3 hs2
        go_enter Try.func22, Try.ntmps22
        go_wp2
        go_ret
        exact ⟨ret_int (by rw [HF.out]; rfl), rfl⟩
      | false =>
      rw [x3] at g3 hs2
      cases x4 : decide (c = 61 ∧ d = 126) with
      | true =>
        rw [x4] at g4
        clear x4 hs2
        go_enter Try.func22, Try.ntmps22
        go_wp2
        go_ret
        exact ⟨ret_int (by rw [HF.out]; rfl), rfl⟩
      | false =>
      rw [x4] at g4 hs2
      have x5 : decide (c = 33 ∧ d = 126) = true := by simpa using hs2
      rw [x5] at g5
      clear hs2 x0 x1 x2 x3 x4 x5
      go_enter Try.func22, Try.ntmps22
      go_wp2
      go_ret
      exact ⟨ret_int (by rw [HF.out]; rfl), rfl⟩
    | false =>
      have H1 := hid (one_tail c R (by rw [hR, hs2]; rfl))
      unfold sign2 at hs2
      simp only [Bool.or_eq_false_iff] at hs2
      obtain ⟨⟨⟨⟨⟨x0, x1⟩, x2⟩, x3⟩, x4⟩, x5⟩ := hs2
      rw [x0] at g0
      rw [x1] at g1
      rw [x2] at g2
      rw [x3] at g3
      rw [x4] at g4
      rw [x5] at g5
      clear hR x0 x1 x2 x3 x4 x5
      go_enter Try.func22, Try.ntmps22
      go_upto_region 10 with fail
      by_cases h60 : c = 60
      · subst h60
        have HF := hid (H1.out.1 rfl)
        clear H1
        go_wp2
        go_ret
        exact ⟨ret_int (by rw [HF.out]; rfl), rfl⟩
      have q60 : (c == 60) = false := by simpa using h60
      by_cases h62 : c = 62
      · subst h62
        have HF := hid (H1.out.1 rfl)
        clear H1
        go_wp2
        go_ret
        exact ⟨ret_int (by rw [HF.out]; rfl), rfl⟩
      have q62 : (c == 62) = false := by simpa using h62
      by_cases h61 : c = 61
      · subst h61
        have HF := hid (H1.out.1 rfl)
        clear H1
        go_wp2
        go_ret
        exact ⟨ret_int (by rw [HF.out]; rfl), rfl⟩
      have q61 : (c == 61) = false := by simpa using h61
      by_cases h43 : c = 43
      · subst h43
        have HF := hid (H1.out.1 rfl)
        clear H1
        go_wp2
        go_ret
        exact ⟨ret_int (by rw [HF.out]; rfl), rfl⟩
      have q43 : (c == 43) = false := by simpa using h43
      by_cases h45 : c = 45
      · subst h45
        have HF := hid (H1.out.1 rfl)
        clear H1
        go_wp2
        go_ret
        exact ⟨ret_int (by rw [HF.out]; rfl), rfl⟩
      have q45 : (c == 45) = false := by simpa using h45
      by_cases h42 : c = 42
      · subst h42
        have HF := hid (H1.out.1 rfl)
        clear H1
        go_wp2
        go_ret
        exact ⟨ret_int (by rw [HF.out]; rfl), rfl⟩
      have q42 : (c == 42) = false := by simpa using h42
      by_cases h47 : c = 47
      · subst h47
        have HF := hid (H1.out.1 rfl)
        clear H1
        go_wp2
        go_ret
        exact ⟨ret_int (by rw [HF.out]; rfl), rfl⟩
      have q47 : (c == 47) = false := by simpa using h47
      by_cases h40 : c = 40
      · subst h40
        have HF := hid (H1.out.1 rfl)
        clear H1
        go_wp2
        go_ret
        exact ⟨ret_int (by rw [HF.out]; rfl), rfl⟩
      have q40 : (c == 40) = false := by simpa using h40
      by_cases h41 : c = 41
      · subst h41
        have HF := hid (H1.out.1 rfl)
        clear H1
        go_wp2
        go_ret
        exact ⟨ret_int (by rw [HF.out]; rfl), rfl⟩
      have q41 : (c == 41) = false := by simpa using h41
      by_cases h123 : c = 123
      · subst h123
        have HF := hid (H1.out.1 rfl)
        clear H1
        go_wp2
        go_ret
        exact ⟨ret_int (by rw [HF.out]; rfl), rfl⟩
      have q123 : (c == 123) = false := by simpa using h123
      by_cases h125 : c = 125
      · subst h125
        have HF := hid (H1.out.1 rfl)
        clear H1
        go_wp2
        go_ret
        exact ⟨ret_int (by rw [HF.out]; rfl), rfl⟩
      have q125 : (c == 125) = false := by simpa using h125
      by_cases h91 : c = 91
      · subst h91
        have HF := hid (H1.out.1 rfl)
        clear H1
        go_wp2
        go_ret
        exact ⟨ret_int (by rw [HF.out]; rfl), rfl⟩
      have q91 : (c == 91) = false := by simpa using h91
      by_cases h93 : c = 93
      · subst h93
        have HF := hid (H1.out.1 rfl)
        clear H1
        go_wp2
        go_ret
        exact ⟨ret_int (by rw [HF.out]; rfl), rfl⟩
      have q93 : (c == 93) = false := by simpa using h93
      by_cases h44 : c = 44
      · subst h44
        have HF := hid (H1.out.1 rfl)
        clear H1
        go_wp2
        go_ret
        exact ⟨ret_int (by rw [HF.out]; rfl), rfl⟩
      have q44 : (c == 44) = false := by simpa using h44
      have HF := hid (H1.out.2 (by unfold sign1; simp [h60, h62, h61, h43, h45, h42, h47, h40, h41, h123, h125, h91, h93, h44]))
      clear H1 h60 h62 h61 h43 h45 h42 h47 h40 h41 h123 h125 h91 h93 h44
      go_wp2
      go_ret
      exact ⟨ret_int (by rw [HF.out]; rfl), rfl⟩
  · have hki2 : ¬ (k : Int) + 1 < (s.size : Int) := by omega
    have hR : signN ((sInts s).drop k) = if sign1 (byteAt s k) = true then 1 else 0 := by
      rw [drop_byte s k hk, List.drop_eq_nil_of_le (by rw [sInts_len]; omega)]
      rfl
    generalize signN ((sInts s).drop k) = R at hR ⊢
    generalize byteAt s k = c at hidx hbk hR
    have H1 := hid (one_tail c R hR)
    clear hR
    go_enter Try.func22, Try.ntmps22
    go_upto_region 10 with fail
    by_cases h60 : c = 60
    · subst h60
      have HF := hid (H1.out.1 rfl)
      clear H1
      go_wp2
      go_ret
      exact ⟨ret_int (by rw [HF.out]; rfl), rfl⟩
    have q60 : (c == 60) = false := by simpa using h60
    by_cases h62 : c = 62
    · subst h62
      have HF := hid (H1.out.1 rfl)
      clear H1
      go_wp2
      go_ret
      exact ⟨ret_int (by rw [HF.out]; rfl), rfl⟩
    have q62 : (c == 62) = false := by simpa using h62
    by_cases h61 : c = 61
    · subst h61
      have HF := hid (H1.out.1 rfl)
      clear H1
      go_wp2
      go_ret
      exact ⟨ret_int (by rw [HF.out]; rfl), rfl⟩
    have q61 : (c == 61) = false := by simpa using h61
    by_cases h43 : c = 43
    · subst h43
      have HF := hid (H1.out.1 rfl)
      clear H1
      go_wp2
      go_ret
      exact ⟨ret_int (by rw [HF.out]; rfl), rfl⟩
    have q43 : (c == 43) = false := by simpa using h43
    by_cases h45 : c = 45
    · subst h45
      have HF := hid (H1.out.1 rfl)
      clear H1
      go_wp2
      go_ret
      exact ⟨ret_int (by rw [HF.out]; rfl), rfl⟩
    have q45 : (c == 45) = false := by simpa using h45
    by_cases h42 : c = 42
    · subst h42
      have HF := hid (H1.out.1 rfl)
      clear H1
      go_wp2
      go_ret
      exact ⟨ret_int (by rw [HF.out]; rfl), rfl⟩
    have q42 : (c == 42) = false := by simpa using h42
    by_cases h47 : c = 47
    · subst h47
      have HF := hid (H1.out.1 rfl)
      clear H1
      go_wp2
      go_ret
      exact ⟨ret_int (by rw [HF.out]; rfl), rfl⟩
    have q47 : (c == 47) = false := by simpa using h47
    by_cases h40 : c = 40
    · subst h40
      have HF := hid (H1.out.1 rfl)
      clear H1
      go_wp2
      go_ret
      exact ⟨ret_int (by rw [HF.out]; rfl), rfl⟩
    have q40 : (c == 40) = false := by simpa using h40
    by_cases h41 : c = 41
    · subst h41
      have HF := hid (H1.out.1 rfl)
      clear H1
      go_wp2
      go_ret
      exact ⟨ret_int (by rw [HF.out]; rfl), rfl⟩
    have q41 : (c == 41) = false := by simpa using h41
    by_cases h123 : c = 123
    · subst h123
      have HF := hid (H1.out.1 rfl)
      clear H1
      go_wp2
      go_ret
      exact ⟨ret_int (by rw [HF.out]; rfl), rfl⟩
    have q123 : (c == 123) = false := by simpa using h123
    by_cases h125 : c = 125
    · subst h125
      have HF := hid (H1.out.1 rfl)
      clear H1
      go_wp2
      go_ret
      exact ⟨ret_int (by rw [HF.out]; rfl), rfl⟩
    have q125 : (c == 125) = false := by simpa using h125
    by_cases h91 : c = 91
    · subst h91
      have HF := hid (H1.out.1 rfl)
      clear H1
      go_wp2
      go_ret
      exact ⟨ret_int (by rw [HF.out]; rfl), rfl⟩
    have q91 : (c == 91) = false := by simpa using h91
    by_cases h93 : c = 93
    · subst h93
      have HF := hid (H1.out.1 rfl)
      clear H1
      go_wp2
      go_ret
      exact ⟨ret_int (by rw [HF.out]; rfl), rfl⟩
    have q93 : (c == 93) = false := by simpa using h93
    by_cases h44 : c = 44
    · subst h44
      have HF := hid (H1.out.1 rfl)
      clear H1
      go_wp2
      go_ret
      exact ⟨ret_int (by rw [HF.out]; rfl), rfl⟩
    have q44 : (c == 44) = false := by simpa using h44
    have HF := hid (H1.out.2 (by unfold sign1; simp [h60, h62, h61, h43, h45, h42, h47, h40, h41, h123, h125, h91, h93, h44]))
    clear H1 h60 h62 h61 h43 h45 h42 h47 h40 h41 h123 h125 h91 h93 h44
    go_wp2
    go_ret
    exact ⟨ret_int (by rw [HF.out]; rfl), rfl⟩
end Go.Proofs.Ytkocdmkojoefoaa
