/- What is read, laid anew, is the same bytes. -/
import Derived.Test.YtngkmpmhodgfeaaCdraw
namespace Go.Proofs.Ytngkmpmhodgfeaa
open Go.RowKit
set_option linter.unusedVariables false

theorem rd_take {w : World} {a : Option Addr} {zs : List Int} (h : Rd w a zs) (k : Nat) : Rd w a (zs.take k) := by
  refine ⟨?_, fun z hz => h.2 z (List.mem_of_mem_take hz)⟩
  rcases h.1 with rfl | ⟨b, off, rfl, hc⟩
  · left; simp
  · right
    refine ⟨b, off, rfl, fun i hi => ?_⟩
    have hi' : i < k ∧ i < zs.length := by simp at hi; omega
    rw [hc i hi'.2]
    simp [List.getD_eq_getElem?_getD, hi'.1]
theorem zz_unzz (v : Int) (h : 0 ≤ v) : zz (unzz v) = v := by
  unfold unzz zz
  split <;> split <;> omega
theorem unzz_bd (v : Int) (h0 : 0 ≤ v) (h1 : v ≤ 18446744073709551615) : -9223372036854775808 ≤ unzz v ∧ unzz v ≤ 9223372036854775807 := by
  unfold unzz; split <;> omega
theorem uint_short {zs : List Int} {r1 r2 : Int} (hz : ∀ k, 0 ≤ zs.getD k 0 ∧ zs.getD k 0 ≤ 255) (h : uintR zs 0 = (r1, r2, 0)) :
    ∃ n : Nat, r2 = n ∧ 1 ≤ n ∧ n ≤ zs.length ∧ (0 ≤ r1 ∧ r1 ≤ 18446744073709551615) ∧ enc r1.toNat = zs.take n := by
  obtain ⟨_, h2, h3, h4, h5⟩ := uintR_ok hz h
  obtain ⟨u, rfl, rfl, e⟩ := uintR_back zs 0 r1 r2 hz (by simpa using h)
  refine ⟨0 + (enc u).length, rfl, by omega, by omega, ⟨h4, h5⟩, ?_⟩
  have e' : zs.take (enc u).length = enc u := by simpa using e
  rw [Int.toNat_natCast, Nat.zero_add, e']
theorem int_short {zs : List Int} {r1 r2 : Int} (hz : ∀ k, 0 ≤ zs.getD k 0 ∧ zs.getD k 0 ≤ 255) (h : uintR zs 0 = (r1, r2, 0)) :
    intR zs 0 = (unzz r1, r2, 0) ∧ (-9223372036854775808 ≤ unzz r1 ∧ unzz r1 ≤ 9223372036854775807) ∧ zz (unzz r1) = r1 := by
  obtain ⟨_, h2, h3, h4, h5⟩ := uintR_ok hz h
  refine ⟨by unfold intR; rw [h]; simp, unzz_bd _ h4 h5, zz_unzz _ h4⟩
theorem sInts_strOf (l : List Int) (hl : ∀ z ∈ l, 0 ≤ z ∧ z ≤ 255) : sInts (strOfNums l) = l :=
  strOfNums_inj (sInts_byte _) hl (by rw [strOf_sInts])
theorem text_short {zs : List Int} {s : ByteArray} {r2 : Int} (hb : ∀ z ∈ zs, 0 ≤ z ∧ z ≤ 255) (hz : ∀ k, 0 ≤ zs.getD k 0 ∧ zs.getD k 0 ≤ 255) (h : textR zs 0 = (s, r2, 0)) :
    ∃ k : Nat, r2 = k ∧ 1 ≤ k ∧ k ≤ zs.length ∧ s.size ≤ zs.length ∧ enc s.size ++ sInts s = zs.take k := by
  unfold textR at h
  by_cases h3 : (uintR zs 0).2.2 = 0
  · have hu : uintR zs 0 = ((uintR zs 0).1, (uintR zs 0).2.1, 0) := Prod.ext rfl (Prod.ext rfl h3)
    obtain ⟨n, e2, n1, n2, hr, e⟩ := uint_short hz hu
    rw [if_pos h3, e2] at h
    by_cases h4 : (zs.length : Int) - (n : Int) < (uintR zs 0).1
    · rw [if_pos h4] at h; simp at h
    · rw [if_neg h4] at h
      obtain ⟨u, hu1⟩ := Int.eq_ofNat_of_zero_le hr.1
      rw [hu1] at h e h4
      simp only [Int.toNat_natCast, Prod.mk.injEq, and_true] at h e
      obtain ⟨rfl, rfl⟩ := h
      have hle : n + u ≤ zs.length := by omega
      have hlb : ∀ z ∈ (zs.drop n).take u, 0 ≤ z ∧ z ≤ 255 := fun z hm => hb z (List.mem_of_mem_drop (List.mem_of_mem_take hm))
      have hs := sInts_strOf _ hlb
      have hsz : (strOfNums ((zs.drop n).take u)).size = u := by rw [← sInts_len, hs]; simp; omega
      refine ⟨n + u, by simp, by omega, hle, by omega, ?_⟩
      rw [hsz, hs, e, List.take_add]
  · rw [if_neg h3] at h
    simp only [Prod.mk.injEq] at h
    exact absurd h.2.2 h3
theorem frame_short {zs rec : List Int} {r2 : Int} (hz : ∀ k, 0 ≤ zs.getD k 0 ∧ zs.getD k 0 ≤ 255) (h : uframeR zs 0 = (rec, r2, 0)) :
    ∃ i : Nat, r2 = i ∧ 1 ≤ i ∧ i ≤ zs.length ∧ rec.length ≤ 65536 ∧ frameR rec = zs.take i := by
  unfold uframeR at h
  by_cases h3 : (uintR zs 0).2.2 = 0
  · have hu : uintR zs 0 = ((uintR zs 0).1, (uintR zs 0).2.1, 0) := Prod.ext rfl (Prod.ext rfl h3)
    obtain ⟨n, e2, n1, n2, hr, e⟩ := uint_short hz hu
    obtain ⟨u, hu1⟩ := Int.eq_ofNat_of_zero_le hr.1
    rw [if_neg (by simpa using h3), e2, hu1] at h
    rw [hu1] at e
    simp only [Int.toNat_natCast] at h e
    split at h
    · simp at h
    · split at h
      · simp at h
      · split at h
        · rename_i h5 h6 h7
          simp only [Prod.mk.injEq, and_true] at h
          obtain ⟨rfl, rfl⟩ := h
          have hlen : ((zs.drop (n + 4)).take u).length = u := by simp; omega
          refine ⟨n + 4 + u, by simp, by omega, by omega, by omega, ?_⟩
          rw [frameR, hlen, h7, e, List.take_add, List.take_add, List.append_assoc]
        · simp at h
  · rw [if_pos (by simpa using h3)] at h
    simp only [Prod.mk.injEq] at h
    exact absurd h.2.2 h3
theorem frame_no {zs rec : List Int} {r2 r3 : Int} (h : uframeR zs 0 = (rec, r2, r3)) (h3 : r3 ≠ 0) : rec = [] := by
  unfold uframeR at h
  split at h
  · simp only [Prod.mk.injEq] at h; exact h.1.symm
  · split at h
    · simp only [Prod.mk.injEq] at h; exact h.1.symm
    · split at h
      · simp only [Prod.mk.injEq] at h; exact h.1.symm
      · split at h
        · simp only [Prod.mk.injEq] at h; exact absurd h.2.2.symm h3
        · simp only [Prod.mk.injEq] at h; exact h.1.symm
theorem all_no {zs : List Int} {r1 r2 r3 : Int} (h : uintR zs 0 = (r1, r2, r3)) (h3 : r3 ≠ 0) : intR zs 0 = (0, 0, r3) ∧ textR zs 0 = (⟨#[]⟩, 0, r3) ∧ uframeR zs 0 = ([], 0, r3) := by
  refine ⟨?_, ?_, ?_⟩
  · unfold intR; rw [h]; simp [h3]
  · unfold textR; rw [h]; simp [h3]
  · unfold uframeR; rw [h]; simp [h3]
end Go.Proofs.Ytngkmpmhodgfeaa
