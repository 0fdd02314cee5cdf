/- Plain facts: a bit that is set in a list of bytes; lists of bytes by their bits. -/
import Derived.Test.YtmljokpghhfcjaaMath
namespace Go.Proofs.Ytmljokpghhfcjaa

theorem getD_bd {zs : List Int} (h : ∀ z ∈ zs, 0 ≤ z ∧ z ≤ 255) (i : Nat) : 0 ≤ zs.getD i 0 ∧ zs.getD i 0 ≤ 255 := by
  by_cases hi : i < zs.length
  · have := h zs[i] (List.getElem_mem hi)
    simpa [List.getD_eq_getElem?_getD, hi] using this
  · simp [List.getD_eq_getElem?_getD, List.getElem?_eq_none (Nat.le_of_not_lt hi)]

theorem nat_top (v m : Nat) (h : m ≤ 63) : v * 2 ^ m % 2 ^ 64 / 2 ^ 63 = v / 2 ^ (63 - m) % 2 := by
  have e1 : 2 ^ 64 = 2 ^ (64 - m) * 2 ^ m := by rw [← Nat.pow_add]; congr 1; omega
  have e2 : 2 ^ 63 = 2 ^ (63 - m) * 2 ^ m := by rw [← Nat.pow_add]; congr 1; omega
  rw [e1, e2, Nat.mul_mod_mul_right, Nat.mul_div_mul_right _ _ (Nat.two_pow_pos m)]
  have e3 : 2 ^ (64 - m) = 2 ^ (63 - m) * 2 := by rw [← Nat.pow_succ]; congr 1; omega
  rw [e3, Nat.mod_mul_right_div_self]

/-- What is left of a number whose m highest bits are shifted out. -/
def lft (v : Int) (m : Nat) : Int := v * 2 ^ m % 18446744073709551616
theorem lft_bd (v : Int) (m : Nat) : 0 ≤ lft v m ∧ lft v m ≤ 18446744073709551615 := by unfold lft; omega
theorem lft_succ (v : Int) (m : Nat) : lft v m * 2 % 18446744073709551616 = lft v (m + 1) := by
  unfold lft
  rw [Int.pow_succ, ← Int.mul_assoc]
  omega
theorem lft_top (v : Int) (m : Nat) (hv : 0 ≤ v) (h : m ≤ 63) : lft v m / 9223372036854775808 = v / 2 ^ (63 - m) % 2 := by
  obtain ⟨V, rfl⟩ := Int.eq_ofNat_of_zero_le hv
  have h2 := nat_top V m h
  have e64 : (2 : Nat) ^ 64 = 18446744073709551616 := by decide
  have e63 : (2 : Nat) ^ 63 = 9223372036854775808 := by decide
  rw [e64, e63] at h2
  unfold lft
  have h3 := congrArg (fun x : Nat => (x : Int)) h2
  simpa only [Int.natCast_ediv, Int.natCast_emod, Int.natCast_mul, Int.natCast_pow, Int.cast_ofNat_Int] using h3

theorem set_bit (z : Int) (s : Nat) (b : Int) (h0 : 0 ≤ z) (h1 : z ≤ 255) (hs : s < 8) (hb : b = 0 ∨ b = 1) (hz : z / 2 ^ s % 2 = 0) :
    0 ≤ bits .or .u8 z (b * 2 ^ s % 256) ∧ bits .or .u8 z (b * 2 ^ s % 256) ≤ 255 ∧ ∀ t, t < 8 → bits .or .u8 z (b * 2 ^ s % 256) / 2 ^ t % 2 = if t = s then b else z / 2 ^ t % 2 := by
  have key : ∀ (Z : Fin 256) (S : Fin 8), (Z.val / 2 ^ S.val % 2 = 0) → (Z.val ||| 2 ^ S.val) < 256 ∧ ∀ T : Fin 8, (Z.val ||| 2 ^ S.val) / 2 ^ T.val % 2 = if T = S then 1 else Z.val / 2 ^ T.val % 2 := by decide +kernel
  have key0 : ∀ (Z : Fin 256), (Z.val ||| 0) = Z.val := by decide +kernel
  obtain ⟨Z, rfl⟩ := Int.eq_ofNat_of_zero_le h0
  have hZ : Z < 256 := by omega
  rcases hb with rfl | rfl
  · have e : (0 : Int) * 2 ^ s % 256 = ((0 : Nat) : Int) := by simp
    rw [e, u8_or_nat Z 0 hZ (by omega)]
    have k0 : Z ||| 0 = Z := key0 ⟨Z, hZ⟩
    rw [k0]
    refine ⟨by omega, by omega, fun t ht => ?_⟩
    split
    · rename_i h; rw [h]; exact hz
    · rfl
  · have hp : (2 : Nat) ^ s < 256 := by
      have : (2 : Nat) ^ s ≤ 2 ^ 7 := Nat.pow_le_pow_right (by decide) (by omega)
      omega
    have e : (1 : Int) * 2 ^ s % 256 = ((2 ^ s : Nat) : Int) := by
      have h2 : ((2 ^ s : Nat) : Int) = (2 : Int) ^ s := by push_cast; rfl
      rw [Int.one_mul, ← h2]
      have h3 : ∀ P : Nat, P < 256 → (P : Int) % 256 = P := fun P hP => by omega
      exact h3 _ hp
    rw [e, u8_or_nat Z _ hZ hp]
    have hz' : Z / 2 ^ s % 2 = 0 := by exact_mod_cast hz
    obtain ⟨k1, k2⟩ := key ⟨Z, hZ⟩ ⟨s, hs⟩ hz'
    refine ⟨by omega, by simp only at k1; omega, fun t ht => ?_⟩
    have k3 := k2 ⟨t, ht⟩
    simp only [Fin.mk.injEq] at k3
    have e3 : (((Z ||| 2 ^ s : Nat) : Int) / 2 ^ t % 2) = (((Z ||| 2 ^ s) / 2 ^ t % 2 : Nat) : Int) := by push_cast; rfl
    rw [e3, k3]
    split
    · rfl
    · push_cast; rfl

theorem bitOf_set (zs : List Int) (j : Nat) (u : Int) (hj : j < zs.length) (i : Nat) : bitOf (zs.set j u) i = if i / 8 = j then u / 2 ^ (7 - i % 8) % 2 else bitOf zs i := by
  unfold bitOf
  simp only [List.getD_eq_getElem?_getD, List.getElem?_set]
  split
  · rename_i h
    subst h
    simp
  · rename_i h
    rw [if_neg (fun e => h e.symm)]

/-- A bit is set that was 0: no other turns. -/
theorem put_bit (zs : List Int) (q : Nat) (b : Int) (hz : ∀ z ∈ zs, 0 ≤ z ∧ z ≤ 255) (hq : q / 8 < zs.length) (hb : b = 0 ∨ b = 1) (h0 : bitOf zs q = 0) :
    (0 ≤ bits .or .u8 (zs.getD (q / 8) 0) (b * 2 ^ (7 - q % 8) % 256) ∧ bits .or .u8 (zs.getD (q / 8) 0) (b * 2 ^ (7 - q % 8) % 256) ≤ 255) ∧
    ∀ i, bitOf (zs.set (q / 8) (bits .or .u8 (zs.getD (q / 8) 0) (b * 2 ^ (7 - q % 8) % 256))) i = if i = q then b else bitOf zs i := by
  have hbd := getD_bd hz (q / 8)
  obtain ⟨k1, k2, k3⟩ := set_bit (zs.getD (q / 8) 0) (7 - q % 8) b hbd.1 hbd.2 (by omega) hb h0
  refine ⟨⟨k1, k2⟩, fun i => ?_⟩
  rw [bitOf_set _ _ _ hq]
  split
  · rename_i h
    rw [k3 (7 - i % 8) (by omega)]
    by_cases hi : i = q
    · subst hi; simp
    · rw [if_neg (by omega), if_neg hi, ← h]; rfl
  · rename_i h
    rw [if_neg (fun e => h (by rw [e]))]

/-- Two lists of bytes that are as long and have the same bits are one. -/
theorem eq_of_bits (xs ys : List Int) (hx : ∀ z ∈ xs, 0 ≤ z ∧ z ≤ 255) (hy : ∀ z ∈ ys, 0 ≤ z ∧ z ≤ 255) (hl : xs.length = ys.length) (h : ∀ i, i < 8 * xs.length → bitOf xs i = bitOf ys i) : xs = ys := by
  refine List.ext_getElem hl fun j h1 h2 => ?_
  have hb : ∀ t, t < 8 → xs[j] / 2 ^ (7 - t) % 2 = ys[j] / 2 ^ (7 - t) % 2 := by
    intro t ht
    have := h (8 * j + t) (by omega)
    unfold bitOf at this
    have e1 : (8 * j + t) / 8 = j := by omega
    have e2 : (8 * j + t) % 8 = t := by omega
    rw [e1, e2] at this
    simpa [List.getD_eq_getElem?_getD, List.getElem?_eq_getElem h1, List.getElem?_eq_getElem h2] using this
  have bx := hx _ (List.getElem_mem h1)
  have bY := hy _ (List.getElem_mem h2)
  generalize xs[j] = x at *
  generalize ys[j] = y at *
  have b0 := hb 0 (by omega)
  have b1 := hb 1 (by omega)
  have b2 := hb 2 (by omega)
  have b3 := hb 3 (by omega)
  have b4 := hb 4 (by omega)
  have b5 := hb 5 (by omega)
  have b6 := hb 6 (by omega)
  have b7 := hb 7 (by omega)
  simp at b0 b1 b2 b3 b4 b5 b6 b7
  clear hb h hx hy
  omega
theorem bitOf_past (zs : List Int) (i : Nat) (h : 8 * zs.length ≤ i) : bitOf zs i = 0 := by
  unfold bitOf
  rw [List.getD_eq_getElem?_getD, List.getElem?_eq_none (by omega)]
  simp

/-- A list of L bytes by its bits. -/
def ofBits (L : Nat) (f : Nat → Int) : List Int := (List.range L).map fun j => f (8 * j) * 128 + f (8 * j + 1) * 64 + f (8 * j + 2) * 32 + f (8 * j + 3) * 16 + f (8 * j + 4) * 8 + f (8 * j + 5) * 4 + f (8 * j + 6) * 2 + f (8 * j + 7)
theorem ofBits_len (L : Nat) (f : Nat → Int) : (ofBits L f).length = L := by simp [ofBits]
theorem ofBits_byte (L : Nat) (f : Nat → Int) (hf : ∀ i, 0 ≤ f i ∧ f i ≤ 1) : ∀ z ∈ ofBits L f, 0 ≤ z ∧ z ≤ 255 := by
  intro z hz
  simp only [ofBits, List.mem_map, List.mem_range] at hz
  obtain ⟨j, _, rfl⟩ := hz
  have h0 := hf (8 * j)
  have h1 := hf (8 * j + 1)
  have h2 := hf (8 * j + 2)
  have h3 := hf (8 * j + 3)
  have h4 := hf (8 * j + 4)
  have h5 := hf (8 * j + 5)
  have h6 := hf (8 * j + 6)
  have h7 := hf (8 * j + 7)
  omega
theorem ofBits_bit (L : Nat) (f : Nat → Int) (hf : ∀ i, 0 ≤ f i ∧ f i ≤ 1) (i : Nat) (hi : i < 8 * L) : bitOf (ofBits L f) i = f i := by
  unfold bitOf
  have hj : i / 8 < L := by omega
  have e : (ofBits L f).getD (i / 8) 0 = f (8 * (i / 8)) * 128 + f (8 * (i / 8) + 1) * 64 + f (8 * (i / 8) + 2) * 32 + f (8 * (i / 8) + 3) * 16 + f (8 * (i / 8) + 4) * 8 + f (8 * (i / 8) + 5) * 4 + f (8 * (i / 8) + 6) * 2 + f (8 * (i / 8) + 7) := by
    simp [ofBits, List.getD_eq_getElem?_getD, hj]
  rw [e]
  have h0 := hf (8 * (i / 8))
  have h1 := hf (8 * (i / 8) + 1)
  have h2 := hf (8 * (i / 8) + 2)
  have h3 := hf (8 * (i / 8) + 3)
  have h4 := hf (8 * (i / 8) + 4)
  have h5 := hf (8 * (i / 8) + 5)
  have h6 := hf (8 * (i / 8) + 6)
  have h7 := hf (8 * (i / 8) + 7)
  have hc : i % 8 = 0 ∨ i % 8 = 1 ∨ i % 8 = 2 ∨ i % 8 = 3 ∨ i % 8 = 4 ∨ i % 8 = 5 ∨ i % 8 = 6 ∨ i % 8 = 7 := by omega
  rcases hc with h | h | h | h | h | h | h | h
  · have ei : i = 8 * (i / 8) := by omega
    rw [h]; conv => rhs; rw [ei]
    simp; omega
  · have ei : i = 8 * (i / 8) + 1 := by omega
    rw [h]; conv => rhs; rw [ei]
    simp; omega
  · have ei : i = 8 * (i / 8) + 2 := by omega
    rw [h]; conv => rhs; rw [ei]
    simp; omega
  · have ei : i = 8 * (i / 8) + 3 := by omega
    rw [h]; conv => rhs; rw [ei]
    simp; omega
  · have ei : i = 8 * (i / 8) + 4 := by omega
    rw [h]; conv => rhs; rw [ei]
    simp; omega
  · have ei : i = 8 * (i / 8) + 5 := by omega
    rw [h]; conv => rhs; rw [ei]
    simp; omega
  · have ei : i = 8 * (i / 8) + 6 := by omega
    rw [h]; conv => rhs; rw [ei]
    simp; omega
  · have ei : i = 8 * (i / 8) + 7 := by omega
    rw [h]; conv => rhs; rw [ei]
    simp; omega

/-- Bit i behind the k lowest bits of v have been appended to n bits. -/
def appBit (zs : List Int) (n : Nat) (v : Int) (k : Nat) (i : Nat) : Int := if i < n then bitOf zs i else if i < n + k then v / 2 ^ (k - 1 - (i - n)) % 2 else 0
theorem appBit_01 (zs : List Int) (n : Nat) (v : Int) (k i : Nat) : 0 ≤ appBit zs n v k i ∧ appBit zs n v k i ≤ 1 := by
  unfold appBit
  have := bitOf_01 zs i
  split
  · exact this
  · split <;> omega
/-- P1.2's answer. -/
def app (zs : List Int) (n : Nat) (v : Int) (k : Nat) : List Int := ofBits ((n + k + 7) / 8) (appBit zs n v k)
theorem app_len (zs : List Int) (n : Nat) (v : Int) (k : Nat) : (app zs n v k).length = (n + k + 7) / 8 := ofBits_len _ _
theorem app_byte (zs : List Int) (n : Nat) (v : Int) (k : Nat) : ∀ z ∈ app zs n v k, 0 ≤ z ∧ z ≤ 255 := ofBits_byte _ _ (appBit_01 zs n v k)
theorem app_bit (zs : List Int) (n : Nat) (v : Int) (k i : Nat) : bitOf (app zs n v k) i = appBit zs n v k i := by
  by_cases h : i < 8 * ((n + k + 7) / 8)
  · exact ofBits_bit _ _ (appBit_01 zs n v k) i h
  · rw [bitOf_past _ _ (by rw [app_len]; omega), appBit, if_neg (by omega), if_neg (by omega)]
theorem app_eq {zs ys : List Int} {n : Nat} {v : Int} {k : Nat} (hy : ∀ z ∈ ys, 0 ≤ z ∧ z ≤ 255) (hl : ys.length = (n + k + 7) / 8) (h : ∀ i, bitOf ys i = appBit zs n v k i) : ys = app zs n v k :=
  eq_of_bits _ _ hy (app_byte zs n v k) (by rw [hl, app_len]) fun i _ => by rw [h, app_bit]
end Go.Proofs.Ytmljokpghhfcjaa
