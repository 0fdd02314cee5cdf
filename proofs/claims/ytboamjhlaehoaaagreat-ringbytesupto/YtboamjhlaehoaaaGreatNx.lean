/- Several texts in one: Wc, Wd. -/
import Derived.Test.YtboamjhlaehoaaaGreatMp
/- Rings: what is read is laid so and no other way. -/
namespace Go.Proofs.YtboamjhlaehoaaaGreat
open Go.RowKit
set_option linter.unusedVariables false
set_option maxRecDepth 20000

theorem drop_byte {zs : List Int} {k : Nat} (h : k < zs.length) : zs.drop k = zs.getD k 0 :: zs.drop (k + 1) := by
  rw [List.drop_eq_getElem_cons h, List.getD_eq_getElem?_getD, List.getElem?_eq_getElem h]; rfl
theorem ud_canon {zs : List Int} (hz : ∀ k, 0 ≤ zs.getD k 0 ∧ zs.getD k 0 ≤ 255) (p : Nat) : ∀ (f i : Nat) (v r q : Int), i + f = 10 → 1 ≤ f → ud zs p f i v = (r, q, 0) → ∃ u : Nat, zs.drop (p + i) = enc u ++ zs.drop q.toNat ∧ r = v + (u : Int) * 2 ^ (7 * i) ∧ (0 < i → 0 < u) ∧ (p + i : Nat) < q
  | 0, i, v, r, q, _, h1, _ => by omega
  | f + 1, i, v, r, q, hi, _, h => by
    unfold ud at h
    have hb := hz (p + i)
    split at h
    · cases h
    · rename_i hlen
      split at h
      · cases h
      · rename_i hne
        have hd := drop_byte (zs := zs) (k := p + i) (by omega)
        obtain ⟨b, eb⟩ : ∃ b : Nat, zs.getD (p + i) 0 = (b : Int) := ⟨(zs.getD (p + i) 0).toNat, by omega⟩
        rw [eb] at h hd hne hb
        split at h
        · rename_i hlt
          simp only [Prod.mk.injEq] at h
          obtain ⟨rfl, rfl, _⟩ := h
          refine ⟨b, ?_, ?_, ?_, by omega⟩
          · rw [enc_small (by omega), hd, Int.toNat_natCast]; rfl
          · rw [show ((b : Int) % 128) = (b : Int) by omega]
          · intro h0; omega
        · rename_i hge
          obtain ⟨u, h1, h2, h3, h4⟩ := ud_canon hz p f (i + 1) _ r q (by omega) (by omega) h
          have hu := h3 (by omega)
          refine ⟨b - 128 + 128 * u, ?_, ?_, fun _ => by omega, by omega⟩
          · rw [hd, enc_big (by omega), show p + i + 1 = p + (i + 1) by omega, h1]
            rw [show (b - 128 + 128 * u) % 128 + 128 = b by omega, show (b - 128 + 128 * u) / 128 = u by omega]
            rfl
          · rw [h2, show 7 * (i + 1) = 7 * i + 7 by omega, Int.pow_add]
            have e1 : ((b : Int) % 128) = (b : Int) - 128 := by omega
            have e2 : (((b - 128 + 128 * u : Nat)) : Int) = (b : Int) - 128 + 128 * (u : Int) := by omega
            rw [e1, e2]
            generalize (2 : Int) ^ (7 * i) = x
            rw [show (2 : Int) ^ 7 = 128 from rfl, Int.add_mul ((b : Int) - 128), Int.add_assoc]
            congr 2
            rw [Int.mul_comm x 128, ← Int.mul_assoc, Int.mul_comm (u : Int) 128]
/-- Reading is canonical: what was read, laid again, are the bytes that were read. -/
theorem uintR_canon {zs : List Int} {p r q : Int} (hz : ∀ k, 0 ≤ zs.getD k 0 ∧ zs.getD k 0 ≤ 255) (h : uintR zs p = (r, q, 0)) : zs.drop p.toNat = enc r.toNat ++ zs.drop q.toNat := by
  unfold uintR at h
  split at h
  · cases h
  · obtain ⟨u, h1, h2, _, _⟩ := ud_canon hz p.toNat 10 0 0 r q (by omega) (by omega) h
    rw [Nat.add_zero] at h1
    have e : r.toNat = u := by rw [h2]; simp
    rw [e]; exact h1
theorem nxt_canon {zs : List Int} (hz : ∀ k, 0 ≤ zs.getD k 0 ∧ zs.getD k 0 ≤ 255) (p : Int) (h : (nxt zs (p, false)).2.2 = false) : zs.drop p.toNat = enc (nxt zs (p, false)).1.toNat ++ zs.drop (nxt zs (p, false)).2.1.toNat := by
  unfold nxt at h ⊢
  simp only [Bool.false_eq_true, if_false] at h ⊢
  by_cases h0 : (uintR zs p).2.2 = 0
  · rw [if_pos h0]
    exact uintR_canon hz (by rw [← h0])
  · rw [if_neg h0] at h; cases h
end Go.Proofs.YtboamjhlaehoaaaGreat

/- Rings: the bytes of what Decode answers are the bytes it was asked of. -/
namespace Go.Proofs.YtboamjhlaehoaaaGreat
open Go.RowKit
set_option linter.unusedVariables false
set_option maxRecDepth 20000

section
variable {zs : List Int} (hz : ∀ k, 0 ≤ zs.getD k 0 ∧ zs.getD k 0 ≤ 255)
include hz
theorem nxt_canon2 (s : Int × Bool) (h : (nxt zs s).2.2 = false) : s.2 = false ∧ zs.drop s.1.toNat = enc (nxt zs s).1.toNat ++ zs.drop (nxt zs s).2.1.toNat := by
  obtain ⟨p, b⟩ := s
  cases b with
  | true => unfold nxt at h; simp at h
  | false => exact ⟨rfl, nxt_canon hz p h⟩
theorem up_canon (m : Int) (s : Int × Bool) (h : (upTo zs m s).2.2 = false) : s.2 = false ∧ zs.drop s.1.toNat = enc (upTo zs m s).1.toNat ++ zs.drop (upTo zs m s).2.1.toNat := by
  unfold upTo at h ⊢
  split at h
  · cases h
  · rename_i hn
    rw [if_neg hn]
    exact nxt_canon2 hz s h
theorem words_canon : ∀ (k : Nat) (s : Int × Bool), (wordsR zs k s).2.2 = false → s.2 = false ∧ zs.drop s.1.toNat = encAll (wordsR zs k s).1 ++ zs.drop (wordsR zs k s).2.1.toNat
  | 0, s, h => ⟨h, by simp [wordsR, encAll]⟩
  | k + 1, s, h => by
    obtain ⟨h1, h2⟩ := up_canon hz 4294967295 (wordsR zs k s).2 h
    obtain ⟨h3, h4⟩ := words_canon k s h1
    refine ⟨h3, ?_⟩
    show zs.drop s.1.toNat = encAll ((wordsR zs k s).1 ++ [(upTo zs 4294967295 (wordsR zs k s).2).1]) ++ zs.drop (upTo zs 4294967295 (wordsR zs k s).2).2.1.toNat
    rw [h4, h2, encAll_app, encAll_one, List.append_assoc]
theorem mem_canon (s : Int × Bool) (h : (memR zs s).2.2 = false) : s.2 = false ∧ zs.drop s.1.toNat = encAll (nmem (memR zs s).1) ++ zs.drop (memR zs s).2.1.toNat := by
  unfold memR at h ⊢
  simp only at h ⊢
  obtain ⟨h1, h2⟩ := words_canon hz _ _ h
  obtain ⟨h3, h4⟩ := up_canon hz 64 _ h1
  obtain ⟨h5, h6⟩ := up_canon hz 3 _ h3
  obtain ⟨h7, h8⟩ := up_canon hz 15 _ h5
  refine ⟨h7, ?_⟩
  have hr := upTo_range hz 64 (by decide) (upTo zs 3 (upTo zs 15 s).2).2
  unfold nmem
  simp only [wordsR_len]
  rw [encAll_app, h8, h6, h4, h2]
  have e : (((upTo zs 64 (upTo zs 3 (upTo zs 15 s).2).2).1.toNat : Nat) : Int) = (upTo zs 64 (upTo zs 3 (upTo zs 15 s).2).2).1 := by omega
  rw [e]
  simp [encAll, List.append_assoc]
theorem mems_canon : ∀ (k : Nat) (s : Int × Bool), (memsR zs k s).2.2 = false → s.2 = false ∧ zs.drop s.1.toNat = encAll ((memsR zs k s).1.flatMap nmem) ++ zs.drop (memsR zs k s).2.1.toNat
  | 0, s, h => ⟨h, by simp [memsR, encAll]⟩
  | k + 1, s, h => by
    obtain ⟨h1, h2⟩ := mem_canon hz (memsR zs k s).2 h
    obtain ⟨h3, h4⟩ := mems_canon k s h1
    refine ⟨h3, ?_⟩
    show zs.drop s.1.toNat = encAll (((memsR zs k s).1 ++ [(memR zs (memsR zs k s).2).1]).flatMap nmem) ++ zs.drop (memR zs (memsR zs k s).2).2.1.toNat
    rw [h4, h2, List.flatMap_append, encAll_app, List.append_assoc]
    simp
/-- What Decode reads, laid again, is what it read. -/
theorem ring_canon (h : (ringR zs).2.2 = true) : zs = encAll (nrs (ringR zs).1 (ringR zs).2.1.length (ringR zs).2.1) := by
  unfold ringR at h ⊢
  simp only at h ⊢
  simp only [Bool.and_eq_true, Bool.not_eq_true', decide_eq_true_eq] at h
  obtain ⟨hb, hq⟩ := h
  obtain ⟨h1, h2⟩ := mems_canon hz _ _ hb
  obtain ⟨h3, h4⟩ := up_canon hz 16 _ h1
  obtain ⟨h5, h6⟩ := nxt_canon2 hz (0, false) h3
  have hr := upTo_range hz 16 (by decide) (nxt zs (0, false)).2
  rw [hq, Int.toNat_natCast, List.drop_length, List.append_nil] at h2
  rw [h2] at h4
  rw [h4] at h6
  have h7 : zs = zs.drop ((0 : Int)).toNat := by simp
  rw [memsR_len]
  have e : (((upTo zs 16 (nxt zs (0, false)).2).1.toNat : Nat) : Int) = (upTo zs 16 (nxt zs (0, false)).2).1 := by omega
  conv => lhs; rw [h7, h6]
  unfold nrs
  rw [encAll_app, e]
  simp [encAll, List.append_assoc]
end
end Go.Proofs.YtboamjhlaehoaaaGreat

