/- Numbers' bytes are read back, and there is one form of each. -/
import Derived.Test.YtailaehpgmpaaaaCumath
namespace Go.Proofs.Ytailaehpgmpaaaa

theorem getD_app (xs ys : List Int) (i : Nat) : (xs ++ ys).getD (xs.length + i) 0 = ys.getD i 0 := by
  simp [List.getD_eq_getElem?_getD, List.getElem?_append_right]

theorem pow7 (i : Nat) : (2 : Int) ^ (7 * (i + 1)) = 2 ^ (7 * i) * 128 := by
  rw [show 7 * (i + 1) = 7 * i + 7 by omega, Int.pow_add]; rfl

/-- What stands from place p + i on is u's bytes: it is read. -/
theorem ud_enc (zs ys : List Int) (p : Nat) : ∀ (m i u : Nat) (a : Int), 9 - i = m → i ≤ 9 → (zs.drop (p + i) = enc u ++ ys) → (0 < i → 0 < u) → (u : Int) * 2 ^ (7 * i) < 18446744073709551616 →
    ud zs p (10 - i) i a = (a + u * 2 ^ (7 * i), ((p + i + (enc u).length : Nat) : Int), 0) := by
  intro m
  induction m with
  | zero =>
    intro i u a hm hi hd hu hb
    obtain rfl : i = 9 := by omega
    have e : (2 : Int) ^ (7 * 9) = 9223372036854775808 := by simp
    rw [e] at hb
    have hu1 : u = 1 := by omega
    subst hu1
    rw [enc_small (by omega)] at hd ⊢
    have hlen : p + 9 < zs.length := by
      have h := congrArg List.length hd
      simp at h; omega
    have hg : zs.getD (p + 9) 0 = 1 := by
      have h := congrArg (fun l => l.getD 0 0) hd
      simpa [List.getD_eq_getElem?_getD] using h
    rw [show 10 - 9 = 0 + 1 from rfl, ud, if_neg (by omega), hg, if_neg (by omega), if_pos (by omega)]
    simp
  | succ m ih =>
    intro i u a hm hi hd hu hb
    have hp : (0 : Int) < 2 ^ (7 * i) := Int.pow_pos (by decide)
    have hlen : p + i < zs.length := by
      have h := congrArg List.length hd
      have := enc_len_pos u
      simp at h; omega
    rw [show 10 - i = (9 - i) + 1 by omega, ud, if_neg (by omega)]
    by_cases h : u < 128
    · rw [enc_small h] at hd ⊢
      have hg : zs.getD (p + i) 0 = u := by
        have h := congrArg (fun l => l.getD 0 0) hd
        simpa [List.getD_eq_getElem?_getD] using h
      rw [hg, if_neg (by omega), if_pos (by omega), show (u : Int) % 128 = u by omega]
      simp
    · rw [enc_big h] at hd ⊢
      have hg : zs.getD (p + i) 0 = ((u % 128 + 128 : Nat) : Int) := by
        have h := congrArg (fun l => l.getD 0 0) hd
        simpa [List.getD_eq_getElem?_getD] using h
      rw [hg, if_neg (by omega), if_neg (by omega)]
      have hd' : zs.drop (p + (i + 1)) = enc (u / 128) ++ ys := by
        have h := congrArg (List.drop 1) hd
        rw [List.drop_drop] at h
        simpa [Nat.add_assoc] using h
      have hmul : ((u / 128 : Nat) : Int) * 2 ^ (7 * (i + 1)) ≤ (u : Int) * 2 ^ (7 * i) := by
        rw [pow7, show ((u / 128 : Nat) : Int) * (2 ^ (7 * i) * 128) = ((u / 128 : Nat) : Int) * 128 * 2 ^ (7 * i) by rw [Int.mul_comm (2 ^ (7 * i)) 128, Int.mul_assoc]]
        exact Int.mul_le_mul_of_nonneg_right (by omega) (Int.le_of_lt hp)
      have := ih (i + 1) (u / 128) (a + ((u % 128 + 128 : Nat) : Int) % 128 * 2 ^ (7 * i)) (by omega) (by omega) hd' (fun _ => by omega) (by omega)
      rw [show 9 - i = 10 - (i + 1) by omega, this]
      have e1 : ((u % 128 + 128 : Nat) : Int) % 128 = ((u % 128 : Nat) : Int) := by omega
      rw [e1, pow7]
      have e2 : a + ((u % 128 : Nat) : Int) * 2 ^ (7 * i) + ((u / 128 : Nat) : Int) * (2 ^ (7 * i) * 128) = a + (u : Int) * 2 ^ (7 * i) := by
        have e3 : (u : Int) = ((u % 128 : Nat) : Int) + ((u / 128 : Nat) : Int) * 128 := by omega
        have e4 : (u : Int) * 2 ^ (7 * i) = ((u % 128 : Nat) : Int) * 2 ^ (7 * i) + ((u / 128 : Nat) : Int) * 128 * 2 ^ (7 * i) := by
          conv => lhs; rw [e3]
          rw [Int.add_mul]
        rw [e4, Int.mul_comm (2 ^ (7 * i)) 128, ← Int.mul_assoc]
        omega
      rw [e2]
      have e5 : p + (i + 1) + (enc (u / 128)).length = p + i + (((u % 128 + 128 : Nat) : Int) :: enc (u / 128)).length := by simp; omega
      rw [e5]
theorem uintR_enc (xs ys : List Int) (v : Nat) (hv : v < 18446744073709551616) : uintR (xs ++ (enc v ++ ys)) xs.length = ((v : Int), ((xs.length + (enc v).length : Nat) : Int), 0) := by
  unfold uintR
  rw [if_neg (by simp; omega)]
  have h := ud_enc (xs ++ (enc v ++ ys)) ys xs.length 9 0 v 0 rfl (by omega) (by simp) (by omega) (by simp; omega)
  simp only [Nat.add_zero, Nat.mul_zero, Int.pow_zero, Int.mul_one, Int.zero_add, Nat.sub_zero] at h
  rw [Int.toNat_natCast, h]

/-- What is read as a number is that number's bytes. -/
theorem ud_back (zs : List Int) (p : Nat) (hz : ∀ k, 0 ≤ zs.getD k 0 ∧ zs.getD k 0 ≤ 255) : ∀ (m i : Nat) (a r1 r2 : Int), 9 - i = m → i ≤ 9 → ud zs p (10 - i) i a = (r1, r2, 0) →
    ∃ u : Nat, r1 = a + u * 2 ^ (7 * i) ∧ (0 < i → 0 < u) ∧ r2 = ((p + i + (enc u).length : Nat) : Int) ∧ (zs.drop (p + i)).take (enc u).length = enc u := by
  intro m
  induction m with
  | zero =>
    intro i a r1 r2 hm hi h
    obtain rfl : i = 9 := by omega
    have hr : URel zs p 9 a r1 r2 0 := h
    have hl : p + 9 < zs.length := by
      by_cases hl : p + 9 < zs.length
      · exact hl
      · have := hr.over hi (by omega); omega
    by_cases hf : 9 = 9 ∧ 1 < zs.getD (p + 9) 0 ∨ 0 < 9 ∧ zs.getD (p + 9) 0 = 0
    · have := hr.form hi hl hf; omega
    · have hb := hz (p + 9)
      have hd := hr.done hi hl hf (by omega)
      have hc : zs.getD (p + 9) 0 = 1 := by omega
      refine ⟨1, by rw [← hd.1, hc]; rfl, fun _ => by omega, ?_, ?_⟩
      · rw [enc_small (by omega)]; simp; omega
      · rw [enc_small (by omega)]
        refine List.ext_getElem (by simp; omega) fun j h1 h2 => ?_
        simp at h2
        subst h2
        have : zs[p + 9] = 1 := by simpa [List.getD_eq_getElem?_getD, hl] using hc
        simpa using this
  | succ m ih =>
    intro i a r1 r2 hm hi h
    have hr : URel zs p i a r1 r2 0 := h
    have hl : p + i < zs.length := by
      by_cases hl : p + i < zs.length
      · exact hl
      · have := hr.over hi (by omega); omega
    by_cases hf : i = 9 ∧ 1 < zs.getD (p + i) 0 ∨ 0 < i ∧ zs.getD (p + i) 0 = 0
    · have := hr.form hi hl hf; omega
    · have hb := hz (p + i)
      have hcons : zs.drop (p + i) = zs.getD (p + i) 0 :: zs.drop (p + (i + 1)) := by
        rw [List.drop_eq_getElem_cons hl]
        simp [List.getD_eq_getElem?_getD, hl, Nat.add_assoc]
      by_cases hc : zs.getD (p + i) 0 < 128
      · have hd := hr.done hi hl hf hc
        obtain ⟨C, hC⟩ := Int.eq_ofNat_of_zero_le hb.1
        refine ⟨C, ?_, fun h0 => by omega, ?_, ?_⟩
        · rw [← hd.1, hC, show (C : Int) % 128 = C by omega]
        · rw [enc_small (by omega)]; simp; omega
        · rw [enc_small (by omega), hcons, hC]; simp
      · have hs := hr.step hi hl hf hc
        obtain ⟨u, e1, e2, e3, e4⟩ := ih (i + 1) _ r1 r2 (by omega) (by omega) hs
        obtain ⟨C, hC⟩ := Int.eq_ofNat_of_zero_le hb.1
        have hu := e2 (by omega)
        have hbig : ¬ (C % 128 + 128 * u) < 128 := by omega
        have ed : (C % 128 + 128 * u) / 128 = u := by omega
        have em : ((((C % 128 + 128 * u) % 128 + 128 : Nat)) : Int) = (C : Int) := by omega
        refine ⟨C % 128 + 128 * u, ?_, fun _ => by omega, ?_, ?_⟩
        · rw [e1, hC, pow7]
          have e5 : (C : Int) % 128 = ((C % 128 : Nat) : Int) := by omega
          have e6 : ((C % 128 + 128 * u : Nat) : Int) = ((C % 128 : Nat) : Int) + (u : Int) * 128 := by omega
          rw [e5, e6, Int.add_mul, Int.mul_comm (2 ^ (7 * i)) 128, ← Int.mul_assoc]
          omega
        · rw [enc_big hbig, ed, e3]; simp; omega
        · rw [enc_big hbig, ed, em, hcons, hC]
          simp only [List.length_cons, List.take_succ_cons]
          rw [e4]
theorem uintR_back (zs : List Int) (p : Nat) (r1 r2 : Int) (hz : ∀ k, 0 ≤ zs.getD k 0 ∧ zs.getD k 0 ≤ 255) (h : uintR zs p = (r1, r2, 0)) :
    ∃ u : Nat, r1 = u ∧ r2 = ((p + (enc u).length : Nat) : Int) ∧ (zs.drop p).take (enc u).length = enc u := by
  unfold uintR at h
  split at h
  · simp at h
  · rw [Int.toNat_natCast] at h
    obtain ⟨u, e1, _, e3, e4⟩ := ud_back zs p hz 9 0 0 r1 r2 rfl (by omega) h
    exact ⟨u, by simpa using e1, by simpa using e3, by simpa using e4⟩
end Go.Proofs.Ytailaehpgmpaaaa
