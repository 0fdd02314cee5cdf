/- The document's own calls of layer 2: numbers. -/
import Derived.Test.YtailaehpgmpaaabBytes
import Derived.Test.YtailaehpgmpaaabCmath
namespace Go.Proofs.Ytailaehpgmpaaab
open Go.RowKit

theorem rd_one (w : World) (z : Int) (hz : 0 ≤ z ∧ z ≤ 255) : Rd (w.alloc (.cells #[.int .u8 z] 5)) (some ⟨w.heap.size, 0, none⟩) [z] := rd_lit w [z] (by simpa using hz)

def EncRel (Y zk : List Int) (u : Int) : Prop := zk ++ enc u.toNat = Y
theorem EncRel.small {Y zk : List Int} {u : Int} (h : EncRel Y zk u) (h0 : 0 ≤ u) (h1 : u < 128) : zk ++ [u] = Y := by
  have e := enc_small (v := u.toNat) (by omega)
  unfold EncRel at h
  rw [e] at h
  have : ((u.toNat : Nat) : Int) = u := by omega
  rwa [this] at h
theorem EncRel.big {Y zk : List Int} {u : Int} (h : EncRel Y zk u) (h1 : 128 ≤ u) : EncRel Y (zk ++ [u % 128 + 128]) (u / 128) := by
  have e := enc_big (v := u.toNat) (by omega)
  unfold EncRel at h ⊢
  rw [e] at h
  have e1 : ((u.toNat % 128 + 128 : Nat) : Int) = u % 128 + 128 := by omega
  have e2 : u.toNat / 128 = (u / 128).toNat := by omega
  rw [e1, e2] at h
  rw [← h]; simp
theorem EncRel.len {Y zk : List Int} {u : Int} (h : EncRel Y zk u) : zk.length + 1 ≤ Y.length := by
  have h1 := enc_len_pos u.toNat
  unfold EncRel at h
  rw [← h]; simp; omega

/-- A signed number stands as this number. -/
def zz (x : Int) : Int := if 0 ≤ x then x * 2 else -(x + 1) * 2 + 1
theorem zz_bd (x : Int) (h : -9223372036854775808 ≤ x ∧ x ≤ 9223372036854775807) : 0 ≤ zz x ∧ zz x ≤ 18446744073709551615 := by
  unfold zz; split <;> omega

end Go.Proofs.Ytailaehpgmpaaab
