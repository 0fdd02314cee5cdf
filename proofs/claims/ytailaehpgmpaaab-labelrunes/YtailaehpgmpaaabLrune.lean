/- A character of Unicode is a value by itself. -/
import Derived.Test.YtailaehpgmpaaabLback
import Derived.Lib.RuneBytes
namespace Go.Proofs.Ytailaehpgmpaaab
open Go.RowKit
set_option linter.unusedVariables false

/-- s lies in t from off on. -/
structure Lies (s t : ByteArray) (off : Nat) : Prop where
  le : off + s.size ≤ t.size
  at' : ∀ i, i < s.size → byteAt t (off + i) = byteAt s i
theorem lies_of {s t : ByteArray} {xs ys : List Int} (h : sInts t = xs ++ (sInts s ++ ys)) : Lies s t xs.length := by
  have hl := congrArg List.length h
  simp only [List.length_append, sInts_len] at hl
  refine ⟨by omega, fun i hi => ?_⟩
  unfold byteAt
  rw [h, List.getD_eq_getElem?_getD, List.getD_eq_getElem?_getD, List.getElem?_append_right (by omega), Nat.add_sub_cancel_left, List.getElem?_append_left (by rw [sInts_len]; exact hi)]
theorem cont_in {s t : ByteArray} {off p : Nat} (h : Lies s t off) : ∀ (m i : Nat) (v : Int), p + (i + m) ≤ s.size → cont t (off + p) m i v = cont s p m i v := by
  intro m
  induction m with
  | zero => intro i v _; rfl
  | succ m ih =>
    intro i v hi
    rw [cont, cont, Nat.add_assoc, h.at' (p + i) (by omega), ih (i + 1) _ (by omega)]
theorem multi_in {s t : ByteArray} {off p : Nat} (h : Lies s t off) (n : Nat) (least v : Int) (hn : 1 ≤ n) (hm : 0 < multi s p n least v) : multi t (off + p) n least v = multi s p n least v ∧ p + n ≤ s.size := by
  have hle := h.le
  unfold multi at hm ⊢
  by_cases h1 : s.size < p + n
  · rw [if_pos h1] at hm; omega
  · rw [if_neg h1, if_neg (by omega), cont_in h (n - 1) 1 v (by omega)]
    exact ⟨rfl, by omega⟩
theorem multi_le (s : ByteArray) (p n : Nat) (least v : Int) : multi s p n least v ≤ n := by
  unfold multi
  split
  · omega
  · generalize cont s p (n - 1) 1 v = o
    cases o with
    | none => simp [fini]
    | some x => simp only [fini, fin]; split <;> omega
theorem char_in {s t : ByteArray} {off p : Nat} (h : Lies s t off) (hp : p < s.size) (hc : 0 < charR s p) : charR t (off + p) = charR s p ∧ p + (charR s p).toNat ≤ s.size := by
  by_cases h1 : byteAt s p < 128
  · have es : charR s p = 1 := by unfold charR; rw [if_pos h1]
    have et : charR t (off + p) = 1 := by unfold charR; rw [h.at' p hp, if_pos h1]
    rw [es, et]
    exact ⟨rfl, by omega⟩
  · by_cases h2 : 192 ≤ byteAt s p ∧ byteAt s p < 224
    · have es : charR s p = multi s p 2 128 (byteAt s p % 32) := by unfold charR; rw [if_neg h1, if_pos h2]
      have et : charR t (off + p) = multi t (off + p) 2 128 (byteAt s p % 32) := by unfold charR; rw [h.at' p hp, if_neg h1, if_pos h2]
      rw [es] at hc ⊢
      obtain ⟨e, l⟩ := multi_in h 2 128 _ (by omega) hc
      have := multi_le s p 2 128 (byteAt s p % 32)
      rw [et, e]
      exact ⟨rfl, by omega⟩
    · by_cases h3 : 224 ≤ byteAt s p ∧ byteAt s p < 240
      · have es : charR s p = multi s p 3 2048 (byteAt s p % 16) := by unfold charR; rw [if_neg h1, if_neg h2, if_pos h3]
        have et : charR t (off + p) = multi t (off + p) 3 2048 (byteAt s p % 16) := by unfold charR; rw [h.at' p hp, if_neg h1, if_neg h2, if_pos h3]
        rw [es] at hc ⊢
        obtain ⟨e, l⟩ := multi_in h 3 2048 _ (by omega) hc
        have := multi_le s p 3 2048 (byteAt s p % 16)
        rw [et, e]
        exact ⟨rfl, by omega⟩
      · by_cases h4 : 240 ≤ byteAt s p ∧ byteAt s p < 248
        · have es : charR s p = multi s p 4 65536 (byteAt s p % 8) := by unfold charR; rw [if_neg h1, if_neg h2, if_neg h3, if_pos h4]
          have et : charR t (off + p) = multi t (off + p) 4 65536 (byteAt s p % 8) := by unfold charR; rw [h.at' p hp, if_neg h1, if_neg h2, if_neg h3, if_pos h4]
          rw [es] at hc ⊢
          obtain ⟨e, l⟩ := multi_in h 4 65536 _ (by omega) hc
          have := multi_le s p 4 65536 (byteAt s p % 8)
          rw [et, e]
          exact ⟨rfl, by omega⟩
        · unfold charR at hc
          rw [if_neg h1, if_neg h2, if_neg h3, if_neg h4] at hc
          omega
theorem vfrom_in {s t : ByteArray} {off : Nat} (h : Lies s t off) : ∀ (d p : Nat), s.size - p = d → p ≤ s.size → vfrom s p = true → vfrom t (off + p) = vfrom t (off + s.size) := by
  intro d
  induction d using Nat.strongRecOn with
  | _ d ih =>
    intro p hd hp hv
    by_cases he : p = s.size
    · rw [he]
    · rw [vfrom] at hv
      by_cases hc : p < s.size ∧ 0 < charR s p
      · rw [dif_pos hc] at hv
        obtain ⟨e, l⟩ := char_in h hc.1 hc.2
        have := ih (s.size - (p + (charR s p).toNat)) (by omega) (p + (charR s p).toNat) rfl l hv
        have hle := h.le
        rw [vfrom, dif_pos ⟨by omega, by rw [e]; exact hc.2⟩, e, Nat.add_assoc]
        exact this
      · rw [dif_neg hc] at hv
        simp at hv
        omega
theorem vfrom_end {t : ByteArray} {p : Nat} (h : p = t.size) : vfrom t p = true := by
  rw [vfrom, dif_neg (by omega)]
  simp; omega
theorem vfrom_bad {t : ByteArray} {p : Nat} (h : p < t.size) (hc : charR t p = 0) : vfrom t p = false := by
  rw [vfrom, dif_neg (by omega)]
  simp; omega
theorem char_128 {t : ByteArray} {p : Nat} (h : byteAt t p = 128) : charR t p = 0 := by unfold charR; rw [h]; rfl
theorem char_255 {t : ByteArray} {p : Nat} (h : byteAt t p = 255) : charR t p = 0 := by unfold charR; rw [h]; rfl

theorem cont_one (s : ByteArray) (p i : Nat) (v : Int) (h : byteAt s (p + i) / 64 = 2) (m : Nat) : cont s p (m + 1) i v = cont s p m (i + 1) (v * 64 + byteAt s (p + i) % 64) := by rw [cont, if_pos h]
/-- A character's own bytes are one character. -/
theorem rune_char {R : ByteArray} {v : Int} (hR : sInts R = Go.Lib.encodeRuneZ v) (h0 : 0 ≤ v) (h1 : v ≤ 1114111) (hs : ¬ (55296 ≤ v ∧ v ≤ 57343)) : charR R 0 = R.size ∧ 1 ≤ R.size ∧ R.size ≤ 4 ∧ (1 < R.size → 192 ≤ byteAt R 0 ∧ byteAt R 0 < 248 ∧ (byteAt R 0 < 224 → R.size = 2) ∧ (224 ≤ byteAt R 0 → byteAt R 0 < 240 → R.size = 3) ∧ (240 ≤ byteAt R 0 → R.size = 4)) := by
  have hl := sInts_len R
  by_cases a1 : v ≤ 127
  · rw [Go.Lib.encodeRuneZ_one h0 a1] at hR
    rw [hR] at hl
    simp at hl
    have b0 : byteAt R 0 = v := by unfold byteAt; rw [hR]; rfl
    unfold charR
    rw [b0, if_pos (by omega), ← hl]
    exact ⟨rfl, by omega, by omega, by omega⟩
  · by_cases a2 : v ≤ 2047
    · rw [Go.Lib.encodeRuneZ_two (by omega) a2] at hR
      rw [hR] at hl
      simp at hl
      have b0 : byteAt R 0 = 192 + v / 64 := by unfold byteAt; rw [hR]; rfl
      have b1 : byteAt R (0 + 1) = 128 + v % 64 := by unfold byteAt; rw [hR]; rfl
      refine ⟨?_, by omega, by omega, by omega⟩
      unfold charR
      rw [b0, if_neg (by omega), if_pos (by omega)]
      unfold multi
      rw [if_neg (by omega)]
      show fini 2 128 (cont R 0 (0 + 1) 1 _) = _
      rw [cont_one R 0 1 _ (by rw [b1]; omega), b1, cont]
      simp only [fini, fin]
      rw [if_neg (by omega)]
      omega
    · by_cases a3 : v ≤ 65535
      · rw [Go.Lib.encodeRuneZ_three (by omega)] at hR
        rw [hR] at hl
        simp at hl
        have b0 : byteAt R 0 = 224 + v / 4096 := by unfold byteAt; rw [hR]; rfl
        have b1 : byteAt R (0 + 1) = 128 + v / 64 % 64 := by unfold byteAt; rw [hR]; rfl
        have b2 : byteAt R (0 + (1 + 1)) = 128 + v % 64 := by unfold byteAt; rw [hR]; rfl
        refine ⟨?_, by omega, by omega, by omega⟩
        unfold charR
        rw [b0, if_neg (by omega), if_neg (by omega), if_pos (by omega)]
        unfold multi
        rw [if_neg (by omega)]
        show fini 3 2048 (cont R 0 (0 + 1 + 1) 1 _) = _
        rw [cont_one R 0 1 _ (by rw [b1]; omega), b1, cont_one R 0 (1 + 1) _ (by rw [b2]; omega), b2, cont]
        simp only [fini, fin]
        rw [if_neg (by omega)]
        omega
      · rw [Go.Lib.encodeRuneZ_four (by omega) h1] at hR
        rw [hR] at hl
        simp at hl
        have b0 : byteAt R 0 = 240 + v / 262144 := by unfold byteAt; rw [hR]; rfl
        have b1 : byteAt R (0 + 1) = 128 + v / 4096 % 64 := by unfold byteAt; rw [hR]; rfl
        have b2 : byteAt R (0 + (1 + 1)) = 128 + v / 64 % 64 := by unfold byteAt; rw [hR]; rfl
        have b3 : byteAt R (0 + (1 + 1 + 1)) = 128 + v % 64 := by unfold byteAt; rw [hR]; rfl
        refine ⟨?_, by omega, by omega, by omega⟩
        unfold charR
        rw [b0, if_neg (by omega), if_neg (by omega), if_neg (by omega), if_pos (by omega)]
        unfold multi
        rw [if_neg (by omega)]
        show fini 4 65536 (cont R 0 (0 + 1 + 1 + 1) 1 _) = _
        rw [cont_one R 0 1 _ (by rw [b1]; omega), b1, cont_one R 0 (1 + 1) _ (by rw [b2]; omega), b2, cont_one R 0 (1 + 1 + 1) _ (by rw [b3]; omega), b3, cont]
        simp only [fini, fin]
        rw [if_neg (by omega)]
        omega
theorem rune_from {R : ByteArray} (h : charR R 0 = R.size) (h1 : 1 ≤ R.size) : vfrom R 0 = true := by
  rw [vfrom, dif_pos ⟨by omega, by omega⟩, h]
  exact vfrom_end (by omega)
theorem valid_iff (s : ByteArray) : validR s = true ↔ 1 ≤ s.size ∧ s.size ≤ 256 ∧ vfrom s 0 = true := by
  unfold validR
  simp only [Bool.and_eq_true, decide_eq_true_eq]
  constructor
  · intro h; exact ⟨by omega, h.1.2, h.2⟩
  · intro h; exact ⟨⟨by omega, h.2.1⟩, h.2.2⟩
theorem valid_not {s : ByteArray} (h : vfrom s 0 = false) : validR s = false := by unfold validR; rw [h]; simp
theorem from_one (c : UInt8) (h : c.toNat < 128) : vfrom ⟨#[c]⟩ 0 = true := by
  have hs : (⟨#[c]⟩ : ByteArray).size = 1 := rfl
  have hb : byteAt ⟨#[c]⟩ 0 = (c.toNat : Int) := rfl
  have hc : charR ⟨#[c]⟩ 0 = 1 := by unfold charR; rw [hb, if_pos (by omega)]
  exact rune_from (by rw [hc, hs]; rfl) (by rw [hs]; omega)
/-- Valid texts one behind the other. -/
theorem vfrom_app {s t : ByteArray} (h : vfrom s 0 = true) : vfrom (s ++ t) 0 = vfrom (s ++ t) s.size := by
  have := vfrom_in (off := 0) (lies_of (s := s) (t := s ++ t) (xs := []) (ys := sInts t) (by rw [sInts_app]; rfl)) _ 0 rfl (by omega) h
  rw [Nat.zero_add, Nat.zero_add] at this
  exact this
theorem vfrom_app2 {s t : ByteArray} (h : vfrom s 0 = true) (h2 : vfrom t 0 = true) : vfrom (s ++ t) 0 = true := by
  rw [vfrom_app h]
  have hl := lies_of (s := t) (t := s ++ t) (xs := sInts s) (ys := []) (by rw [sInts_app, List.append_nil])
  have := vfrom_in hl _ 0 rfl (by omega) h2
  rw [sInts_len, Nat.add_zero] at this
  rw [this]
  exact vfrom_end (by rw [ByteArray.size_append])
theorem byte_behind (s t : ByteArray) (h : 0 < t.size) : byteAt (s ++ t) s.size = byteAt t 0 := by
  have hl := lies_of (s := t) (t := s ++ t) (xs := sInts s) (ys := []) (by rw [sInts_app, List.append_nil])
  have := hl.at' 0 h
  rw [sInts_len, Nat.add_zero] at this
  exact this
theorem rune_facts {R : ByteArray} {v : Int} (hR : sInts R = Go.Lib.encodeRuneZ v) (h0 : 0 ≤ v) (h1 : v ≤ 1114111) (hs : ¬ (55296 ≤ v ∧ v ≤ 57343)) (head cut : ByteArray) (hh : head.size ≤ 100) (hcut : sInts cut = (sInts R).take (R.size - 1)) :
    validR R = true ∧ validR (⟨#[120]⟩ ++ R ++ R ++ ⟨#[121]⟩) = true ∧ validR (R ++ ⟨#[128]⟩) = false ∧ validR (⟨#[255]⟩ ++ R) = false ∧ (validR head = true → validR (head ++ R) = true) ∧ (R.size ≠ 1 → validR (⟨#[120]⟩ ++ cut) = false) := by
  obtain ⟨c1, c2, c3, c4⟩ := rune_char hR h0 h1 hs
  have hf := rune_from c1 c2
  have hx := from_one 120 (by decide)
  have hy := from_one 121 (by decide)
  have s1 : (⟨#[120]⟩ : ByteArray).size = 1 := rfl
  have s2 : (⟨#[121]⟩ : ByteArray).size = 1 := rfl
  have s3 : (⟨#[128]⟩ : ByteArray).size = 1 := rfl
  have s4 : (⟨#[255]⟩ : ByteArray).size = 1 := rfl
  refine ⟨(valid_iff R).2 ⟨c2, by omega, hf⟩, (valid_iff _).2 ⟨?_, ?_, vfrom_app2 (vfrom_app2 (vfrom_app2 hx hf) hf) hy⟩, valid_not ?_, valid_not ?_, fun hv => ?_, fun hne => valid_not ?_⟩
  · simp only [ByteArray.size_append]; omega
  · simp only [ByteArray.size_append]; omega
  · rw [vfrom_app hf]
    exact vfrom_bad (by rw [ByteArray.size_append]; omega) (char_128 (byte_behind R ⟨#[128]⟩ (by rw [s3]; omega)))
  · refine vfrom_bad (by rw [ByteArray.size_append]; omega) (char_255 ?_)
    unfold byteAt
    rw [sInts_app]
    rfl
  · obtain ⟨v1, v2, v3⟩ := (valid_iff head).1 hv
    exact (valid_iff _).2 ⟨by rw [ByteArray.size_append]; omega, by rw [ByteArray.size_append]; omega, vfrom_app2 v3 hf⟩
  · obtain ⟨d1, d2, d3, d4, d5⟩ := c4 (by omega)
    have hcl : cut.size = R.size - 1 := by
      have := congrArg List.length hcut
      rw [sInts_len, List.length_take, sInts_len] at this
      omega
    rw [vfrom_app hx]
    have hb : byteAt (⟨#[120]⟩ ++ cut) (⟨#[120]⟩ : ByteArray).size = byteAt R 0 := by
      rw [byte_behind _ _ (by omega)]
      unfold byteAt
      rw [hcut, List.getD_eq_getElem?_getD, List.getD_eq_getElem?_getD, List.getElem?_take, if_pos (by omega)]
    have hsz : (⟨#[120]⟩ ++ cut : ByteArray).size = R.size := by rw [ByteArray.size_append]; omega
    refine vfrom_bad (by rw [hsz, s1]; omega) ?_
    unfold charR
    rw [hb, if_neg (by omega)]
    unfold multi
    rw [hsz, s1]
    by_cases e1 : byteAt R 0 < 224
    · have := d3 e1
      rw [if_pos ⟨d1, e1⟩, if_pos (by omega)]
    · rw [if_neg (by omega)]
      by_cases e2 : byteAt R 0 < 240
      · have := d4 (by omega) e2
        rw [if_pos (by omega), if_pos (by omega)]
      · have := d5 (by omega)
        rw [if_neg (by omega), if_pos (by omega), if_pos (by omega)]
theorem check_one (t : ByteArray) : checkR [(⟨#[97]⟩, t)] = if validR t = true then 0 else 32 := by
  unfold checkR
  rw [if_neg (by simp), chk, k_name]
  cases validR t <;> rfl
end Go.Proofs.Ytailaehpgmpaaab
