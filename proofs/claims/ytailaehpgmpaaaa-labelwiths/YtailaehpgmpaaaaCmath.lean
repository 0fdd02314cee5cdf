/- Plain facts on numbers' bytes and on sums. -/
import Derived.Laws.BitsAllLaws
import Derived.Laws.Bits64
namespace Go.Proofs.Ytailaehpgmpaaaa

/-- A number's bytes: seven bits a byte, the lowest first. -/
def enc (v : Nat) : List Int := if h : v < 128 then [(v : Int)] else ((v % 128 + 128 : Nat) : Int) :: enc (v / 128)
termination_by v
decreasing_by omega
theorem enc_small {v : Nat} (h : v < 128) : enc v = [(v : Int)] := by rw [enc, dif_pos h]
theorem enc_big {v : Nat} (h : ¬ v < 128) : enc v = ((v % 128 + 128 : Nat) : Int) :: enc (v / 128) := by rw [enc, dif_neg h]
theorem enc_byte (v : Nat) : ∀ z ∈ enc v, 0 ≤ z ∧ z ≤ 255 := by
  induction v using Nat.strongRecOn with
  | _ v ih =>
    by_cases h : v < 128
    · rw [enc_small h]; intro z hz; simp at hz; omega
    · rw [enc_big h]; intro z hz
      rcases List.mem_cons.1 hz with h1 | h1
      · omega
      · exact ih (v / 128) (by omega) z h1
theorem enc_len_pos (v : Nat) : 1 ≤ (enc v).length := by
  by_cases h : v < 128
  · rw [enc_small h]; simp
  · rw [enc_big h]; simp
theorem enc_len_le (f : Nat) : ∀ v, v < 128 ^ (f + 1) → (enc v).length ≤ f + 1 := by
  induction f with
  | zero => intro v hv; rw [enc_small (by omega)]; simp
  | succ f ih =>
    intro v hv
    by_cases h : v < 128
    · rw [enc_small h]; simp
    · rw [enc_big h]
      have := ih (v / 128) (by rw [Nat.pow_succ] at hv; omega)
      simp; omega
theorem enc_len (v : Nat) (hv : v < 18446744073709551616) : (enc v).length ≤ 10 := enc_len_le 9 v (by omega)

theorem or_128 (v : Int) (h0 : 0 ≤ v) (h1 : v ≤ 18446744073709551615) : bits .or .u64 (bits .and .u64 v 127) 128 = v % 128 + 128 := by
  obtain ⟨V, rfl⟩ := Int.eq_ofNat_of_zero_le h0
  have e1 : bits .and .u64 (V : Int) 127 = ((V % 128 : Nat) : Int) := by
    rw [show (127 : Int) = ((127 : Nat) : Int) from rfl, u64_and_nat V 127 (by omega) (by omega), nat_mask7]
  rw [e1, show (128 : Int) = ((128 : Nat) : Int) from rfl, u64_or_nat _ 128 (by omega) (by omega), Nat.or_comm, nat_join 7 128 (V % 128) (by omega) (by omega)]
  omega

/-- What is read from place p on: the number, the place behind it, the error. -/
def ud (zs : List Int) (p : Nat) : Nat → Nat → Int → Int × Int × Int
  | 0, _, _ => (0, 0, 0)
  | f + 1, i, v =>
    if zs.length ≤ p + i then (0, 0, 20)
    else if i = 9 ∧ 1 < zs.getD (p + i) 0 ∨ 0 < i ∧ zs.getD (p + i) 0 = 0 then (0, 0, 21)
    else if zs.getD (p + i) 0 < 128 then (v + zs.getD (p + i) 0 % 128 * 2 ^ (7 * i), (p + i + 1 : Nat), 0)
    else ud zs p f (i + 1) (v + zs.getD (p + i) 0 % 128 * 2 ^ (7 * i))
def uintR (zs : List Int) (p : Int) : Int × Int × Int := if p < 0 ∨ (zs.length : Int) < p then (0, 0, 20) else ud zs p.toNat 10 0 0

/-- One step of the sum, on 32 bits. -/
def crc1 (c : Int) : Int := if c % 2 = 1 then bits .xor .u32 (c / 2) 3988292384 else c / 2
def crcN : Nat → Int → Int
  | 0, c => c
  | k + 1, c => crcN k (crc1 c)
theorem crcN_succ (k : Nat) (c : Int) : crcN (k + 1) c = crc1 (crcN k c) := by
  induction k generalizing c with
  | zero => rfl
  | succ k ih => rw [crcN, ih, crcN]
def crcB (c z : Int) : Int := crcN 8 (bits .xor .u32 c z)
def crcL (c : Int) (l : List Int) : Int := l.foldl crcB c
def sumR (zs : List Int) : Int := bits .xor .u32 (crcL 4294967295 zs) 4294967295

theorem xor32_bd (a b : Int) (ha : 0 ≤ a ∧ a ≤ 4294967295) (hb : 0 ≤ b ∧ b ≤ 4294967295) : 0 ≤ bits .xor .u32 a b ∧ bits .xor .u32 a b ≤ 4294967295 := by
  rw [u32_xor a b ha.1 (by omega) hb.1 (by omega)]
  have : a.toNat ^^^ b.toNat < 2 ^ 32 := Nat.xor_lt_two_pow (by omega) (by omega)
  omega
theorem crc1_bd (c : Int) (h : 0 ≤ c ∧ c ≤ 4294967295) : 0 ≤ crc1 c ∧ crc1 c ≤ 4294967295 := by
  unfold crc1
  split
  · exact xor32_bd _ _ (by omega) (by omega)
  · omega
theorem crcN_bd (k : Nat) (c : Int) (h : 0 ≤ c ∧ c ≤ 4294967295) : 0 ≤ crcN k c ∧ crcN k c ≤ 4294967295 := by
  induction k with
  | zero => exact h
  | succ k ih => rw [crcN_succ]; exact crc1_bd _ ih
theorem crcB_bd (c z : Int) (h : 0 ≤ c ∧ c ≤ 4294967295) (hz : 0 ≤ z ∧ z ≤ 255) : 0 ≤ crcB c z ∧ crcB c z ≤ 4294967295 := crcN_bd 8 _ (xor32_bd _ _ h (by omega))
theorem crcL_snoc (c : Int) (l : List Int) (z : Int) : crcL c (l ++ [z]) = crcB (crcL c l) z := by
  unfold crcL
  rw [List.foldl_append, List.foldl_cons, List.foldl_nil]
theorem crcL_cons (c : Int) (z : Int) (l : List Int) : crcL c (z :: l) = crcL (crcB c z) l := by
  unfold crcL
  rw [List.foldl_cons]
theorem crcL_bd (l : List Int) : ∀ (c : Int), (0 ≤ c ∧ c ≤ 4294967295) → (∀ z ∈ l, 0 ≤ z ∧ z ≤ 255) → 0 ≤ crcL c l ∧ crcL c l ≤ 4294967295 := by
  induction l with
  | nil => intro c h _; exact h
  | cons a l ih =>
    intro c h hz
    have h1 := crcB_bd c a h (hz a (by simp))
    have h2 := ih (crcB c a) h1 (fun z hm => hz z (by simp [hm]))
    rw [crcL_cons]
    exact h2
theorem sumR_bd (l : List Int) (hz : ∀ z ∈ l, 0 ≤ z ∧ z ≤ 255) : 0 ≤ sumR l ∧ sumR l ≤ 4294967295 := xor32_bd _ _ (crcL_bd l _ (by omega) hz) (by omega)
theorem and_one32 (c : Int) (h : 0 ≤ c ∧ c ≤ 4294967295) : bits .and .u32 c 1 = c % 2 := by
  rw [u32_and c 1 h.1 (by omega) (by decide) (by decide)]
  have : (1 : Int).toNat = 1 := rfl
  rw [this, nat_mask1]
  omega
end Go.Proofs.Ytailaehpgmpaaaa
