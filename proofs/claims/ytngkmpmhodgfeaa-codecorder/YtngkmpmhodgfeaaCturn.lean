/- A frame with a bit turned; a frame cut short. -/
import Derived.Test.YtngkmpmhodgfeaaCround
namespace Go.Proofs.Ytngkmpmhodgfeaa
open Go.RowKit
set_option linter.unusedVariables false

/-- A number's bytes cut short end too early. -/
theorem ud_cut (zs : List Int) (p : Nat) : ∀ (m i u j : Nat) (a : Int), 9 - i = m → i ≤ 9 → zs.drop (p + i) = (enc u).take j → j < (enc u).length → (u : Int) * 2 ^ (7 * i) < 18446744073709551616 → ud zs p (10 - i) i a = (0, 0, 20) := by
  intro m
  induction m with
  | zero =>
    intro i u j a hm hi hd hj hb
    obtain rfl : i = 9 := by omega
    have e : (2 : Int) ^ (7 * 9) = 9223372036854775808 := by simp
    rw [e] at hb
    rw [enc_small (show u < 128 by omega)] at hd hj
    have hj0 : j = 0 := by simp at hj; omega
    subst hj0
    have hl : zs.length ≤ p + 9 := by simpa using hd
    rw [show 10 - 9 = 0 + 1 from rfl, ud, if_pos hl]
  | succ m ih =>
    intro i u j a hm hi hd hj hb
    have hp : (0 : Int) < 2 ^ (7 * i) := Int.pow_pos (by decide)
    rw [show 10 - i = (9 - i) + 1 by omega, ud]
    cases j with
    | zero =>
      have hl : zs.length ≤ p + i := by simpa using hd
      rw [if_pos hl]
    | succ j =>
      have h128 : ¬ u < 128 := by
        intro h
        rw [enc_small h] at hj
        simp at hj
      rw [enc_big h128] at hd hj
      have hlen : p + i < zs.length := by
        have h := congrArg List.length hd
        simp at h; omega
      have hg : zs.getD (p + i) 0 = ((u % 128 + 128 : Nat) : Int) := by
        have h := congrArg (fun l => l.getD 0 0) hd
        simpa [List.getD_eq_getElem?_getD] using h
      have hmul : ((u / 128 : Nat) : Int) * 2 ^ (7 * (i + 1)) ≤ (u : Int) * 2 ^ (7 * i) := by
        rw [pow7, show ((u / 128 : Nat) : Int) * (2 ^ (7 * i) * 128) = ((u / 128 : Nat) : Int) * 128 * 2 ^ (7 * i) by rw [Int.mul_comm (2 ^ (7 * i)) 128, Int.mul_assoc]]
        exact Int.mul_le_mul_of_nonneg_right (by omega) (Int.le_of_lt hp)
      have h9 : i ≠ 9 := by omega
      rw [if_neg (by omega), hg, if_neg (by omega), if_neg (by omega)]
      have hd' : zs.drop (p + (i + 1)) = (enc (u / 128)).take j := by
        have h := congrArg (List.drop 1) hd
        rw [List.drop_drop] at h
        simpa [Nat.add_assoc] using h
      have := ih (i + 1) (u / 128) j (a + ((u % 128 + 128 : Nat) : Int) % 128 * 2 ^ (7 * i)) (by omega) (by omega) hd' (by simp at hj; omega) (by omega)
      rw [show 9 - i = 10 - (i + 1) by omega]
      exact this
theorem uframe_cut (rec : List Int) (hr : rec.length ≤ 65536) (i : Nat) (hi : i < (frameR rec).length) : uframeR ((frameR rec).take i) 0 = ([], 0, 20) := by
  have h4 : (four (sumR rec)).length = 4 := rfl
  have hfl : (frameR rec).length = (enc rec.length).length + 4 + rec.length := by rw [frameR]; simp [h4]; omega
  have ef : frameR rec = enc rec.length ++ (four (sumR rec) ++ rec) := by rw [frameR]; simp
  by_cases h : i < (enc rec.length).length
  · have e1 : (frameR rec).take i = (enc rec.length).take i := by rw [ef, List.take_append_of_le_length (by omega)]
    have hu : uintR ((frameR rec).take i) 0 = (0, 0, 20) := by
      unfold uintR
      rw [if_neg (by omega)]
      exact ud_cut _ 0 9 0 rec.length i 0 rfl (by omega) (by rw [e1]; simp) h (by simp; omega)
    unfold uframeR
    rw [hu]
    simp
  · have e1 : (frameR rec).take i = enc rec.length ++ (four (sumR rec) ++ rec).take (i - (enc rec.length).length) := by
      rw [ef, List.take_append]
      rw [List.take_of_length_le (by omega)]
    have hu := uintR_at [] ((four (sumR rec) ++ rec).take (i - (enc rec.length).length)) rec.length (by omega) ((frameR rec).take i) (by rw [e1]; simp) 0 rfl
    unfold uframeR
    rw [hu]
    have hl : ((frameR rec).take i).length = i := by simp; omega
    simp only [ne_eq, not_true_eq_false, if_false, hl]
    rw [if_neg (by omega), if_pos (by simp; omega)]
theorem four_inj (c d : Int) (hc : 0 ≤ c ∧ c ≤ 4294967295) (hd : 0 ≤ d ∧ d ≤ 4294967295) (h : four c = four d) : c = d := by
  simp only [four, List.cons.injEq, and_true] at h
  omega
/-- A byte that is another, behind the length: the sum is another. -/
theorem uframe_turned (rec : List Int) (hb : ∀ z ∈ rec, 0 ≤ z ∧ z ≤ 255) (hr : rec.length ≤ 65536) (j : Nat) (u : Int) (hu : 0 ≤ u ∧ u ≤ 255) (hj : (enc rec.length).length ≤ j) (hjl : j < (frameR rec).length) (hne : u ≠ (frameR rec).getD j 0) :
    ∃ r2 r1, uframeR ((frameR rec).set j u) 0 = (r1, r2, 22) := by
  have h4 : (four (sumR rec)).length = 4 := rfl
  have hfl : (frameR rec).length = (enc rec.length).length + 4 + rec.length := by rw [frameR]; simp [h4]; omega
  have ef : frameR rec = enc rec.length ++ (four (sumR rec) ++ rec) := by rw [frameR]; simp
  have hs := sumR_bd rec hb
  have es : (frameR rec).set j u = enc rec.length ++ (four (sumR rec) ++ rec).set (j - (enc rec.length).length) u := by
    rw [ef, List.set_append, if_neg (by omega)]
  have hui := uintR_at [] ((four (sumR rec) ++ rec).set (j - (enc rec.length).length) u) rec.length (by omega) ((frameR rec).set j u) (by rw [es]; simp) 0 rfl
  have hl : ((frameR rec).set j u).length = (enc rec.length).length + 4 + rec.length := by simp [hfl]
  obtain ⟨q, hq⟩ : ∃ q, j - (enc rec.length).length = q := ⟨_, rfl⟩
  rw [hq] at es
  have hgd : (frameR rec).getD j 0 = (four (sumR rec) ++ rec).getD q 0 := by
    rw [ef, show j = (enc rec.length).length + q by omega, getD_app]
  rw [hgd] at hne
  have hq2 : q < 4 + rec.length := by omega
  have d1 : ((frameR rec).set j u).drop (enc rec.length).length = (four (sumR rec) ++ rec).set q u := by rw [es, List.drop_left]
  have main : ¬ (four (sumR ((((frameR rec).set j u).drop ((enc rec.length).length + 4)).take rec.length)) = (((frameR rec).set j u).drop (enc rec.length).length).take 4) := by
    rw [← List.drop_drop, d1]
    by_cases hq4 : q < 4
    · have e2 : (four (sumR rec) ++ rec).set q u = (four (sumR rec)).set q u ++ rec := by rw [List.set_append, if_pos (by omega)]
      have l4 : ((four (sumR rec)).set q u).length = 4 := by simp [h4]
      rw [e2, ← l4, List.drop_left, List.take_left, List.take_length]
      intro h
      have h2 := congrArg (fun l => l.getD q 0) h
      simp only [List.getD_eq_getElem?_getD, List.getElem?_set_self (show q < (four (sumR rec)).length by omega), Option.getD_some] at h2
      rw [List.getD_eq_getElem?_getD, List.getElem?_append_left (by omega)] at hne
      exact hne h2.symm
    · have e2 : (four (sumR rec) ++ rec).set q u = four (sumR rec) ++ rec.set (q - 4) u := by rw [List.set_append, if_neg (by omega), h4]
      obtain ⟨R', hR'⟩ : ∃ R', R' = rec.set (q - 4) u := ⟨_, rfl⟩
      have hlr : R'.length = rec.length := by rw [hR']; simp
      rw [e2, ← hR', ← h4, List.drop_left, List.take_left, List.take_of_length_le (by omega)]
      intro h
      rw [hR'] at h
      have hbs : ∀ z ∈ rec.set (q - 4) u, 0 ≤ z ∧ z ≤ 255 := fun z hz => by
        rcases List.mem_or_eq_of_mem_set hz with h1 | h1
        · exact hb z h1
        · subst h1; exact hu
      have h3 := four_inj _ _ (sumR_bd _ hbs) hs h
      have hlt : q - 4 < rec.length := by omega
      have er : rec = rec.take (q - 4) ++ rec[q - 4] :: rec.drop (q - 4 + 1) := by
        rw [← List.drop_eq_getElem_cons hlt, List.take_append_drop]
      have ers : rec.set (q - 4) u = rec.take (q - 4) ++ u :: rec.drop (q - 4 + 1) := by
        rw [List.set_eq_take_append_cons_drop, if_pos hlt]
      rw [ers] at h3
      conv at h3 => rhs; rw [er]
      have := sumR_inj _ _ _ _ (fun y hy => hb y (List.mem_of_mem_take hy)) (fun y hy => hb y (List.mem_of_mem_drop hy)) hu (hb _ (List.getElem_mem hlt)) h3
      rw [List.getD_eq_getElem?_getD, List.getElem?_append_right (by omega), h4, List.getElem?_eq_getElem hlt] at hne
      exact hne (by simpa using this)
  refine ⟨0, [], ?_⟩
  unfold uframeR
  rw [hui]
  simp only [ne_eq, not_true_eq_false, if_false, hl]
  rw [if_neg (by omega), if_neg (by simp; omega)]
  have e1 : ((([] : List Int).length : Int) + ((enc rec.length).length : Int)).toNat = (enc rec.length).length := by simp
  have e2 : ((rec.length : Nat) : Int).toNat = rec.length := by omega
  rw [e1, e2, if_neg main]
end Go.Proofs.Ytngkmpmhodgfeaa
