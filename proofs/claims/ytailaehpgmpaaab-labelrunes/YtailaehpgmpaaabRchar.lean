/- The document's own char. -/
import Derived.Test.YtailaehpgmpaaabRname
namespace Go.Proofs.Ytailaehpgmpaaab
open Go.RowKit
set_option linter.unusedVariables false

theorem and_mask (b : Int) (k : Nat) (h0 : 0 ≤ b) (h1 : b ≤ 255) (hk : k ≤ 8) : bits .and .u8 b ((2 ^ k - 1 : Nat) : Int) = b % ((2 ^ k : Nat) : Int) := by
  have hp : 2 ^ k ≤ 256 := Nat.pow_le_pow_right (by decide) hk
  rw [u8_and b _ h0 (by omega) (by omega) (by omega), Int.toNat_natCast, Nat.and_two_pow_sub_one_eq_mod]
  obtain ⟨B, rfl⟩ := Int.eq_ofNat_of_zero_le h0
  rw [Int.toNat_natCast, Int.natCast_emod]
theorem and31 (b : Int) (h : 0 ≤ b ∧ b ≤ 255) : bits .and .u8 b 31 = b % 32 := and_mask b 5 h.1 h.2 (by decide)
theorem and15 (b : Int) (h : 0 ≤ b ∧ b ≤ 255) : bits .and .u8 b 15 = b % 16 := and_mask b 4 h.1 h.2 (by decide)
theorem and7 (b : Int) (h : 0 ≤ b ∧ b ≤ 255) : bits .and .u8 b 7 = b % 8 := and_mask b 3 h.1 h.2 (by decide)
theorem and63 (b : Int) (h : 0 ≤ b ∧ b ≤ 255) : bits .and .u8 b 63 = b % 64 := and_mask b 6 h.1 h.2 (by decide)
set_option maxRecDepth 100000 in
theorem and192 (b : Int) (h : 0 ≤ b ∧ b ≤ 255) : bits .and .u8 b 192 = b / 64 * 64 := by
  rw [u8_and b 192 h.1 (by omega) (by decide) (by decide)]
  have key : ∀ V : Fin 256, V.val &&& 192 = V.val / 64 * 64 := by decide
  have := key ⟨b.toNat, by omega⟩
  simp only at this
  rw [show (192 : Int).toNat = 192 from rfl, this]
  omega

def cont (s : ByteArray) (p : Nat) : Nat → Nat → Int → Option Int
  | 0, _, v => some v
  | m + 1, i, v => if byteAt s (p + i) / 64 = 2 then cont s p m (i + 1) (v * 64 + byteAt s (p + i) % 64) else none
def fin (n least v : Int) : Int := if v < least ∨ 1114111 < v ∨ 55296 ≤ v ∧ v ≤ 57343 then 0 else n
def fini (n least : Int) : Option Int → Int
  | none => 0
  | some v => fin n least v
def multi (s : ByteArray) (p n : Nat) (least v : Int) : Int := if s.size < p + n then 0 else fini n least (cont s p (n - 1) 1 v)
def charR (s : ByteArray) (p : Nat) : Int :=
  if byteAt s p < 128 then 1
  else if 192 ≤ byteAt s p ∧ byteAt s p < 224 then multi s p 2 128 (byteAt s p % 32)
  else if 224 ≤ byteAt s p ∧ byteAt s p < 240 then multi s p 3 2048 (byteAt s p % 16)
  else if 240 ≤ byteAt s p ∧ byteAt s p < 248 then multi s p 4 65536 (byteAt s p % 8)
  else 0
def ContAt (s : ByteArray) (p n : Nat) (least : Int) (i : Nat) (v R : Int) : Prop := fini n least (cont s p (n - i) i v) = R
theorem ContAt.next {s : ByteArray} {p n i : Nat} {least v R : Int} (h : ContAt s p n least i v R) (hi : i < n) : (if byteAt s (p + i) / 64 = 2 then fini n least (cont s p (n - (i + 1)) (i + 1) (v * 64 + byteAt s (p + i) % 64)) else 0) = R := by
  unfold ContAt at h
  rw [show n - i = (n - (i + 1)) + 1 by omega, cont] at h
  split at h
  · rw [if_pos (by assumption)]; exact h
  · rw [if_neg (by assumption)]; exact h



theorem fini_bd (n least : Int) (hn : 0 ≤ n ∧ n ≤ 4) (o : Option Int) : 0 ≤ fini n least o ∧ fini n least o ≤ 4 := by
  cases o with
  | none => simp [fini]
  | some v => simp only [fini, fin]; split <;> omega
theorem multi_bd (s : ByteArray) (p n : Nat) (least v : Int) (hn : n ≤ 4) : 0 ≤ multi s p n least v ∧ multi s p n least v ≤ 4 := by
  unfold multi
  split
  · omega
  · exact fini_bd _ _ (by omega) _
theorem charR_bd (s : ByteArray) (p : Nat) : 0 ≤ charR s p ∧ charR s p ≤ 4 := by
  unfold charR
  split
  · omega
  · split
    · exact multi_bd _ _ _ _ _ (by omega)
    · split
      · exact multi_bd _ _ _ _ _ (by omega)
      · split
        · exact multi_bd _ _ _ _ _ (by omega)
        · omega
def vfrom (s : ByteArray) (p : Nat) : Bool :=
  if h : p < s.size ∧ 0 < charR s p then vfrom s (p + (charR s p).toNat) else decide (s.size ≤ p)
termination_by s.size - p
decreasing_by omega
def validR (s : ByteArray) : Bool := decide (0 < s.size) && decide (s.size ≤ 256) && vfrom s 0

end Go.Proofs.Ytailaehpgmpaaab
