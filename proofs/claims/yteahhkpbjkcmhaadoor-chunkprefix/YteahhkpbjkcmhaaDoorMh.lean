/- Several texts in one: Math, Bitmath, Hbits, Hpts, Hval, Hseq, Hpack, Hbridge, Hput, Hstr, Hstv, Hedge, Hwr, Scope. -/
import Derived.Laws.BitsAllLaws
import Derived.Laws.Bits64
import Derived.ProofKit
import Derived.WalkKit
import Derived.WalkMore
import Derived.ScopeJumps
/- Plain facts on bits of numbers and of lists of bytes. -/
namespace Go.Proofs.YteahhkpbjkcmhaaDoor

/-- Bit i of a list of bytes, the highest of each byte first. -/
def bitOf (zs : List Int) (i : Nat) : Int := zs.getD (i / 8) 0 / 2 ^ (7 - i % 8) % 2
/-- The number that k bits from p on stand for. -/
def rdv (zs : List Int) (p : Nat) : Nat → Int
  | 0 => 0
  | k + 1 => rdv zs p k * 2 + bitOf zs (p + k)

theorem bitOf_01 (zs : List Int) (i : Nat) : 0 ≤ bitOf zs i ∧ bitOf zs i ≤ 1 := by unfold bitOf; omega
theorem rdv_bound (zs : List Int) (p k : Nat) : 0 ≤ rdv zs p k ∧ rdv zs p k < 2 ^ k := by
  induction k with
  | zero => simp [rdv]
  | succ k ih =>
    have := bitOf_01 zs (p + k)
    simp only [rdv, Int.pow_succ]
    omega
theorem rdv_63 (zs : List Int) (p k : Nat) (hk : k < 64) : 0 ≤ rdv zs p k ∧ rdv zs p k ≤ 9223372036854775807 := by
  have h := rdv_bound zs p k
  have : (2 : Int) ^ k ≤ 2 ^ 63 := by exact_mod_cast Nat.pow_le_pow_right (by decide) (by omega : k ≤ 63)
  omega
theorem rdv_64 (zs : List Int) (p k : Nat) (hk : k ≤ 64) : 0 ≤ rdv zs p k ∧ rdv zs p k ≤ 18446744073709551615 := by
  have h := rdv_bound zs p k
  have : (2 : Int) ^ k ≤ 2 ^ 64 := by exact_mod_cast Nat.pow_le_pow_right (by decide) (by omega : k ≤ 64)
  omega

theorem ediv_pow_bd (z : Int) (s : Nat) (h0 : 0 ≤ z) (h1 : z ≤ 255) : 0 ≤ z / 2 ^ s ∧ z / 2 ^ s ≤ 255 := by
  have hp : (0 : Int) < 2 ^ s := Int.pow_pos (by decide)
  refine ⟨Int.ediv_nonneg h0 (Int.le_of_lt hp), ?_⟩
  have := Int.ediv_le_self (2 ^ s) h0
  omega
theorem and_one (z : Int) (s : Nat) (h0 : 0 ≤ z) (h1 : z ≤ 255) : bits .and .u8 (z / 2 ^ s) 1 = z / 2 ^ s % 2 := by
  have hb := ediv_pow_bd z s h0 h1
  rw [u8_and _ _ hb.1 (by omega) (by decide) (by decide)]
  have : (1 : Int).toNat = 1 := rfl
  rw [this, nat_mask1]
  omega
theorem or_step (v z : Int) (s : Nat) (hv : 0 ≤ v) (hv1 : v ≤ 9223372036854775807) (h0 : 0 ≤ z) (h1 : z ≤ 255) :
    bits .or .u64 (v * 2) (IntKind.u64.wrap (bits .and .u8 (z / 2 ^ s) 1)) = v * 2 + z / 2 ^ s % 2 := by
  rw [and_one z s h0 h1, IntKind.wrap_u64]
  have e : z / 2 ^ s % 2 % 18446744073709551616 = z / 2 ^ s % 2 := by omega
  rw [e]
  have ht : 0 ≤ z / 2 ^ s % 2 ∧ z / 2 ^ s % 2 ≤ 1 := by omega
  generalize z / 2 ^ s % 2 = t at *
  rw [u64_or _ _ (by omega) (by omega) (by omega) (by omega), nat_join 1 _ _ (by omega) (by omega)]
  omega
end Go.Proofs.YteahhkpbjkcmhaaDoor

/- Plain facts: a bit that is set in a list of bytes; lists of bytes by their bits. -/
namespace Go.Proofs.YteahhkpbjkcmhaaDoor

theorem getD_bd {zs : List Int} (h : ∀ z ∈ zs, 0 ≤ z ∧ z ≤ 255) (i : Nat) : 0 ≤ zs.getD i 0 ∧ zs.getD i 0 ≤ 255 := by
  by_cases hi : i < zs.length
  · have := h zs[i] (List.getElem_mem hi)
    simpa [List.getD_eq_getElem?_getD, hi] using this
  · simp [List.getD_eq_getElem?_getD, List.getElem?_eq_none (Nat.le_of_not_lt hi)]

theorem nat_top (v m : Nat) (h : m ≤ 63) : v * 2 ^ m % 2 ^ 64 / 2 ^ 63 = v / 2 ^ (63 - m) % 2 := by
  have e1 : 2 ^ 64 = 2 ^ (64 - m) * 2 ^ m := by rw [← Nat.pow_add]; congr 1; omega
  have e2 : 2 ^ 63 = 2 ^ (63 - m) * 2 ^ m := by rw [← Nat.pow_add]; congr 1; omega
  rw [e1, e2, Nat.mul_mod_mul_right, Nat.mul_div_mul_right _ _ (Nat.two_pow_pos m)]
  have e3 : 2 ^ (64 - m) = 2 ^ (63 - m) * 2 := by rw [← Nat.pow_succ]; congr 1; omega
  rw [e3, Nat.mod_mul_right_div_self]

/-- What is left of a number whose m highest bits are shifted out. -/
def lft (v : Int) (m : Nat) : Int := v * 2 ^ m % 18446744073709551616
theorem lft_bd (v : Int) (m : Nat) : 0 ≤ lft v m ∧ lft v m ≤ 18446744073709551615 := by unfold lft; omega
theorem lft_succ (v : Int) (m : Nat) : lft v m * 2 % 18446744073709551616 = lft v (m + 1) := by
  unfold lft
  rw [Int.pow_succ, ← Int.mul_assoc]
  omega
theorem lft_top (v : Int) (m : Nat) (hv : 0 ≤ v) (h : m ≤ 63) : lft v m / 9223372036854775808 = v / 2 ^ (63 - m) % 2 := by
  obtain ⟨V, rfl⟩ := Int.eq_ofNat_of_zero_le hv
  have h2 := nat_top V m h
  have e64 : (2 : Nat) ^ 64 = 18446744073709551616 := by decide
  have e63 : (2 : Nat) ^ 63 = 9223372036854775808 := by decide
  rw [e64, e63] at h2
  unfold lft
  have h3 := congrArg (fun x : Nat => (x : Int)) h2
  simpa only [Int.natCast_ediv, Int.natCast_emod, Int.natCast_mul, Int.natCast_pow, Int.cast_ofNat_Int] using h3

theorem set_bit (z : Int) (s : Nat) (b : Int) (h0 : 0 ≤ z) (h1 : z ≤ 255) (hs : s < 8) (hb : b = 0 ∨ b = 1) (hz : z / 2 ^ s % 2 = 0) :
    0 ≤ bits .or .u8 z (b * 2 ^ s % 256) ∧ bits .or .u8 z (b * 2 ^ s % 256) ≤ 255 ∧ ∀ t, t < 8 → bits .or .u8 z (b * 2 ^ s % 256) / 2 ^ t % 2 = if t = s then b else z / 2 ^ t % 2 := by
  have key : ∀ (Z : Fin 256) (S : Fin 8), (Z.val / 2 ^ S.val % 2 = 0) → (Z.val ||| 2 ^ S.val) < 256 ∧ ∀ T : Fin 8, (Z.val ||| 2 ^ S.val) / 2 ^ T.val % 2 = if T = S then 1 else Z.val / 2 ^ T.val % 2 := by decide +kernel
  have key0 : ∀ (Z : Fin 256), (Z.val ||| 0) = Z.val := by decide +kernel
  obtain ⟨Z, rfl⟩ := Int.eq_ofNat_of_zero_le h0
  have hZ : Z < 256 := by omega
  rcases hb with rfl | rfl
  · have e : (0 : Int) * 2 ^ s % 256 = ((0 : Nat) : Int) := by simp
    rw [e, u8_or_nat Z 0 hZ (by omega)]
    have k0 : Z ||| 0 = Z := key0 ⟨Z, hZ⟩
    rw [k0]
    refine ⟨by omega, by omega, fun t ht => ?_⟩
    split
    · rename_i h; rw [h]; exact hz
    · rfl
  · have hp : (2 : Nat) ^ s < 256 := by
      have : (2 : Nat) ^ s ≤ 2 ^ 7 := Nat.pow_le_pow_right (by decide) (by omega)
      omega
    have e : (1 : Int) * 2 ^ s % 256 = ((2 ^ s : Nat) : Int) := by
      have h2 : ((2 ^ s : Nat) : Int) = (2 : Int) ^ s := by push_cast; rfl
      rw [Int.one_mul, ← h2]
      have h3 : ∀ P : Nat, P < 256 → (P : Int) % 256 = P := fun P hP => by omega
      exact h3 _ hp
    rw [e, u8_or_nat Z _ hZ hp]
    have hz' : Z / 2 ^ s % 2 = 0 := by exact_mod_cast hz
    obtain ⟨k1, k2⟩ := key ⟨Z, hZ⟩ ⟨s, hs⟩ hz'
    refine ⟨by omega, by simp only at k1; omega, fun t ht => ?_⟩
    have k3 := k2 ⟨t, ht⟩
    simp only [Fin.mk.injEq] at k3
    have e3 : (((Z ||| 2 ^ s : Nat) : Int) / 2 ^ t % 2) = (((Z ||| 2 ^ s) / 2 ^ t % 2 : Nat) : Int) := by push_cast; rfl
    rw [e3, k3]
    split
    · rfl
    · push_cast; rfl

theorem bitOf_set (zs : List Int) (j : Nat) (u : Int) (hj : j < zs.length) (i : Nat) : bitOf (zs.set j u) i = if i / 8 = j then u / 2 ^ (7 - i % 8) % 2 else bitOf zs i := by
  unfold bitOf
  simp only [List.getD_eq_getElem?_getD, List.getElem?_set]
  split
  · rename_i h
    subst h
    simp
  · rename_i h
    rw [if_neg (fun e => h e.symm)]

/-- A bit is set that was 0: no other turns. -/
theorem put_bit (zs : List Int) (q : Nat) (b : Int) (hz : ∀ z ∈ zs, 0 ≤ z ∧ z ≤ 255) (hq : q / 8 < zs.length) (hb : b = 0 ∨ b = 1) (h0 : bitOf zs q = 0) :
    (0 ≤ bits .or .u8 (zs.getD (q / 8) 0) (b * 2 ^ (7 - q % 8) % 256) ∧ bits .or .u8 (zs.getD (q / 8) 0) (b * 2 ^ (7 - q % 8) % 256) ≤ 255) ∧
    ∀ i, bitOf (zs.set (q / 8) (bits .or .u8 (zs.getD (q / 8) 0) (b * 2 ^ (7 - q % 8) % 256))) i = if i = q then b else bitOf zs i := by
  have hbd := getD_bd hz (q / 8)
  obtain ⟨k1, k2, k3⟩ := set_bit (zs.getD (q / 8) 0) (7 - q % 8) b hbd.1 hbd.2 (by omega) hb h0
  refine ⟨⟨k1, k2⟩, fun i => ?_⟩
  rw [bitOf_set _ _ _ hq]
  split
  · rename_i h
    rw [k3 (7 - i % 8) (by omega)]
    by_cases hi : i = q
    · subst hi; simp
    · rw [if_neg (by omega), if_neg hi, ← h]; rfl
  · rename_i h
    rw [if_neg (fun e => h (by rw [e]))]

/-- Two lists of bytes that are as long and have the same bits are one. -/
theorem eq_of_bits (xs ys : List Int) (hx : ∀ z ∈ xs, 0 ≤ z ∧ z ≤ 255) (hy : ∀ z ∈ ys, 0 ≤ z ∧ z ≤ 255) (hl : xs.length = ys.length) (h : ∀ i, i < 8 * xs.length → bitOf xs i = bitOf ys i) : xs = ys := by
  refine List.ext_getElem hl fun j h1 h2 => ?_
  have hb : ∀ t, t < 8 → xs[j] / 2 ^ (7 - t) % 2 = ys[j] / 2 ^ (7 - t) % 2 := by
    intro t ht
    have := h (8 * j + t) (by omega)
    unfold bitOf at this
    have e1 : (8 * j + t) / 8 = j := by omega
    have e2 : (8 * j + t) % 8 = t := by omega
    rw [e1, e2] at this
    simpa [List.getD_eq_getElem?_getD, List.getElem?_eq_getElem h1, List.getElem?_eq_getElem h2] using this
  have bx := hx _ (List.getElem_mem h1)
  have bY := hy _ (List.getElem_mem h2)
  generalize xs[j] = x at *
  generalize ys[j] = y at *
  have b0 := hb 0 (by omega)
  have b1 := hb 1 (by omega)
  have b2 := hb 2 (by omega)
  have b3 := hb 3 (by omega)
  have b4 := hb 4 (by omega)
  have b5 := hb 5 (by omega)
  have b6 := hb 6 (by omega)
  have b7 := hb 7 (by omega)
  simp at b0 b1 b2 b3 b4 b5 b6 b7
  clear hb h hx hy
  omega
theorem bitOf_past (zs : List Int) (i : Nat) (h : 8 * zs.length ≤ i) : bitOf zs i = 0 := by
  unfold bitOf
  rw [List.getD_eq_getElem?_getD, List.getElem?_eq_none (by omega)]
  simp

/-- A list of L bytes by its bits. -/
def ofBits (L : Nat) (f : Nat → Int) : List Int := (List.range L).map fun j => f (8 * j) * 128 + f (8 * j + 1) * 64 + f (8 * j + 2) * 32 + f (8 * j + 3) * 16 + f (8 * j + 4) * 8 + f (8 * j + 5) * 4 + f (8 * j + 6) * 2 + f (8 * j + 7)
theorem ofBits_len (L : Nat) (f : Nat → Int) : (ofBits L f).length = L := by simp [ofBits]
theorem ofBits_byte (L : Nat) (f : Nat → Int) (hf : ∀ i, 0 ≤ f i ∧ f i ≤ 1) : ∀ z ∈ ofBits L f, 0 ≤ z ∧ z ≤ 255 := by
  intro z hz
  simp only [ofBits, List.mem_map, List.mem_range] at hz
  obtain ⟨j, _, rfl⟩ := hz
  have h0 := hf (8 * j)
  have h1 := hf (8 * j + 1)
  have h2 := hf (8 * j + 2)
  have h3 := hf (8 * j + 3)
  have h4 := hf (8 * j + 4)
  have h5 := hf (8 * j + 5)
  have h6 := hf (8 * j + 6)
  have h7 := hf (8 * j + 7)
  omega
theorem ofBits_bit (L : Nat) (f : Nat → Int) (hf : ∀ i, 0 ≤ f i ∧ f i ≤ 1) (i : Nat) (hi : i < 8 * L) : bitOf (ofBits L f) i = f i := by
  unfold bitOf
  have hj : i / 8 < L := by omega
  have e : (ofBits L f).getD (i / 8) 0 = f (8 * (i / 8)) * 128 + f (8 * (i / 8) + 1) * 64 + f (8 * (i / 8) + 2) * 32 + f (8 * (i / 8) + 3) * 16 + f (8 * (i / 8) + 4) * 8 + f (8 * (i / 8) + 5) * 4 + f (8 * (i / 8) + 6) * 2 + f (8 * (i / 8) + 7) := by
    simp [ofBits, List.getD_eq_getElem?_getD, hj]
  rw [e]
  have h0 := hf (8 * (i / 8))
  have h1 := hf (8 * (i / 8) + 1)
  have h2 := hf (8 * (i / 8) + 2)
  have h3 := hf (8 * (i / 8) + 3)
  have h4 := hf (8 * (i / 8) + 4)
  have h5 := hf (8 * (i / 8) + 5)
  have h6 := hf (8 * (i / 8) + 6)
  have h7 := hf (8 * (i / 8) + 7)
  have hc : i % 8 = 0 ∨ i % 8 = 1 ∨ i % 8 = 2 ∨ i % 8 = 3 ∨ i % 8 = 4 ∨ i % 8 = 5 ∨ i % 8 = 6 ∨ i % 8 = 7 := by omega
  rcases hc with h | h | h | h | h | h | h | h
  · have ei : i = 8 * (i / 8) := by omega
    rw [h]; conv => rhs; rw [ei]
    simp; omega
  · have ei : i = 8 * (i / 8) + 1 := by omega
    rw [h]; conv => rhs; rw [ei]
    simp; omega
  · have ei : i = 8 * (i / 8) + 2 := by omega
    rw [h]; conv => rhs; rw [ei]
    simp; omega
  · have ei : i = 8 * (i / 8) + 3 := by omega
    rw [h]; conv => rhs; rw [ei]
    simp; omega
  · have ei : i = 8 * (i / 8) + 4 := by omega
    rw [h]; conv => rhs; rw [ei]
    simp; omega
  · have ei : i = 8 * (i / 8) + 5 := by omega
    rw [h]; conv => rhs; rw [ei]
    simp; omega
  · have ei : i = 8 * (i / 8) + 6 := by omega
    rw [h]; conv => rhs; rw [ei]
    simp; omega
  · have ei : i = 8 * (i / 8) + 7 := by omega
    rw [h]; conv => rhs; rw [ei]
    simp; omega

/-- Bit i behind the k lowest bits of v have been appended to n bits. -/
def appBit (zs : List Int) (n : Nat) (v : Int) (k : Nat) (i : Nat) : Int := if i < n then bitOf zs i else if i < n + k then v / 2 ^ (k - 1 - (i - n)) % 2 else 0
theorem appBit_01 (zs : List Int) (n : Nat) (v : Int) (k i : Nat) : 0 ≤ appBit zs n v k i ∧ appBit zs n v k i ≤ 1 := by
  unfold appBit
  have := bitOf_01 zs i
  split
  · exact this
  · split <;> omega
/-- P1.2's answer. -/
def app (zs : List Int) (n : Nat) (v : Int) (k : Nat) : List Int := ofBits ((n + k + 7) / 8) (appBit zs n v k)
theorem app_len (zs : List Int) (n : Nat) (v : Int) (k : Nat) : (app zs n v k).length = (n + k + 7) / 8 := ofBits_len _ _
theorem app_byte (zs : List Int) (n : Nat) (v : Int) (k : Nat) : ∀ z ∈ app zs n v k, 0 ≤ z ∧ z ≤ 255 := ofBits_byte _ _ (appBit_01 zs n v k)
theorem app_bit (zs : List Int) (n : Nat) (v : Int) (k i : Nat) : bitOf (app zs n v k) i = appBit zs n v k i := by
  by_cases h : i < 8 * ((n + k + 7) / 8)
  · exact ofBits_bit _ _ (appBit_01 zs n v k) i h
  · rw [bitOf_past _ _ (by rw [app_len]; omega), appBit, if_neg (by omega), if_neg (by omega)]
theorem app_eq {zs ys : List Int} {n : Nat} {v : Int} {k : Nat} (hy : ∀ z ∈ ys, 0 ≤ z ∧ z ≤ 255) (hl : ys.length = (n + k + 7) / 8) (h : ∀ i, bitOf ys i = appBit zs n v k i) : ys = app zs n v k :=
  eq_of_bits _ _ hy (app_byte zs n v k) (by rw [hl, app_len]) fun i _ => by rw [h, app_bit]
end Go.Proofs.YteahhkpbjkcmhaaDoor

/- Strings of bits: laid, read; points as a string of bits, and back. -/
namespace Go.Proofs.YteahhkpbjkcmhaaDoor
set_option linter.unusedVariables false

theorem snoc_ind {P : List Bool → Prop} (h0 : P []) (h1 : ∀ l b, P l → P (l ++ [b])) (l : List Bool) : P l := by
  rw [← List.reverse_reverse l]
  induction l.reverse with
  | nil => exact h0
  | cons b r ih => rw [List.reverse_cons]; exact h1 _ _ ih
/-- The lowest w bits of v, the highest first. -/
def bitsI (w : Nat) (v : Int) : List Bool := (List.range w).map fun i => decide (v / 2 ^ (w - 1 - i) % 2 = 1)
theorem bitsI_len (w : Nat) (v : Int) : (bitsI w v).length = w := by simp [bitsI]
theorem bitsI_succ (w : Nat) (v : Int) : bitsI (w + 1) v = bitsI w (v / 2) ++ [decide (v % 2 = 1)] := by
  unfold bitsI
  rw [List.range_succ, List.map_append, List.map_singleton]
  congr 1
  · refine List.map_congr_left fun i hi => ?_
    have hi := List.mem_range.1 hi
    rw [show w + 1 - 1 - i = (w - 1 - i) + 1 by omega, Int.pow_succ, Int.mul_comm, ← Int.ediv_ediv_of_nonneg (by decide)]
  · rw [show w + 1 - 1 - w = 0 by omega]; simp
def b2i (b : Bool) : Int := if b then 1 else 0
/-- What a string of bits says. -/
def valI (l : List Bool) : Int := l.foldl (fun a b => 2 * a + b2i b) 0
theorem valI_snoc (l : List Bool) (b : Bool) : valI (l ++ [b]) = 2 * valI l + b2i b := by simp [valI]
theorem valI_nil : valI [] = 0 := rfl
theorem valI_bits (w : Nat) : ∀ v : Int, valI (bitsI w v) = v % 2 ^ w := by
  induction w with
  | zero => intro v; simp [bitsI, valI, Int.emod_one]
  | succ w ih =>
    intro v
    rw [bitsI_succ, valI_snoc, ih, Int.pow_succ]
    have h1 : b2i (decide (v % 2 = 1)) = v % 2 := by
      unfold b2i
      have h : v % 2 = 0 ∨ v % 2 = 1 := by omega
      rcases h with h | h <;> simp [h]
    rw [h1]
    have hp : (0 : Int) < 2 ^ w := Int.pow_pos (by decide)
    have h2 := Int.mul_ediv_add_emod (v / 2) (2 ^ w)
    have h3 := Int.mul_ediv_add_emod v 2
    have h4 := Int.emod_nonneg (v / 2) (show (2 : Int) ^ w ≠ 0 by omega)
    have h5 := Int.emod_lt_of_pos (v / 2) hp
    have h6 := Int.emod_nonneg v (show (2 : Int) ≠ 0 by decide)
    have h7 := Int.emod_lt_of_pos v (show (0 : Int) < 2 by decide)
    have e : v = (v / 2 / 2 ^ w) * (2 ^ w * 2) + (2 * (v / 2 % 2 ^ w) + v % 2) := by
      have : 2 ^ w * (v / 2 / 2 ^ w) * 2 = v / 2 / 2 ^ w * (2 ^ w * 2) := by rw [Int.mul_comm (2 ^ w) (v / 2 / 2 ^ w), Int.mul_assoc]
      omega
    have e2 : v % (2 ^ w * 2) = 2 * (v / 2 % 2 ^ w) + v % 2 := by
      have h8 : v % (2 ^ w * 2) = ((v / 2 / 2 ^ w) * (2 ^ w * 2) + (2 * (v / 2 % 2 ^ w) + v % 2)) % (2 ^ w * 2) := by rw [← e]
      rw [h8, Int.add_comm, Int.add_mul_emod_self_right]
      exact Int.emod_eq_of_lt (by omega) (by omega)
    rw [e2]
theorem valI_bd (l : List Bool) : 0 ≤ valI l ∧ valI l < 2 ^ l.length := by
  refine snoc_ind (P := fun l => 0 ≤ valI l ∧ valI l < 2 ^ l.length) ?_ ?_ l
  · simp [valI]
  · intro l b ih
    rw [valI_snoc, List.length_append, List.length_singleton, Int.pow_succ]
    have : 0 ≤ b2i b ∧ b2i b ≤ 1 := by unfold b2i; split <;> omega
    omega
theorem bits_val (l : List Bool) : bitsI l.length (valI l) = l := by
  refine snoc_ind (P := fun l => bitsI l.length (valI l) = l) ?_ ?_ l
  · rfl
  · intro l b ih
    rw [List.length_append, List.length_singleton, bitsI_succ, valI_snoc]
    have h1 : 0 ≤ b2i b ∧ b2i b ≤ 1 := by unfold b2i; split <;> omega
    have h2 : (2 * valI l + b2i b) / 2 = valI l := by omega
    rw [h2, ih]
    congr 2
    cases b
    · simp [b2i]
    · simp [b2i]

/-- Some bits are read off. -/
def get (w : Nat) (l : List Bool) : Option (Int × List Bool) := if w ≤ l.length then some (valI (l.take w), l.drop w) else none
theorem get_bits (w : Nat) (v : Int) (r : List Bool) : get w (bitsI w v ++ r) = some (v % 2 ^ w, r) := by
  have hl := bitsI_len w v
  unfold get
  rw [if_pos (by rw [List.length_append]; omega), List.take_left' hl, List.drop_left' hl, valI_bits]
theorem get_back {w : Nat} {l : List Bool} {v : Int} {r : List Bool} (h : get w l = some (v, r)) : l = bitsI w v ++ r ∧ 0 ≤ v ∧ v < 2 ^ w := by
  unfold get at h
  split at h
  · rename_i hw
    simp only [Option.some.injEq, Prod.mk.injEq] at h
    obtain ⟨rfl, rfl⟩ := h
    have hl : (l.take w).length = w := by rw [List.length_take]; omega
    have h1 := bits_val (l.take w)
    have h2 := valI_bd (l.take w)
    rw [hl] at h1 h2
    exact ⟨by rw [h1, List.take_append_drop], h2⟩
  · cases h
theorem get_more {w : Nat} {l : List Bool} {v : Int} {r : List Bool} (h : get w l = some (v, r)) (m : List Bool) : get w (l ++ m) = some (v, r ++ m) := by
  obtain ⟨rfl, h0, h1⟩ := get_back h
  rw [List.append_assoc, get_bits, Int.emod_eq_of_lt h0 h1]
end Go.Proofs.YteahhkpbjkcmhaaDoor

/- Points as a string of bits, and back. -/
namespace Go.Proofs.YteahhkpbjkcmhaaDoor
set_option linter.unusedVariables false

abbrev Pt := Int × Int
/-- A step in time. -/
def encZ (z : Int) : List Bool :=
  if z = 0 then [false] else if -64 ≤ z ∧ z ≤ 63 then [true, false] ++ bitsI 7 z else if -256 ≤ z ∧ z ≤ 255 then [true, true, false] ++ bitsI 9 z
  else if -2048 ≤ z ∧ z ≤ 2047 then [true, true, true, false] ++ bitsI 12 z else [true, true, true, true] ++ bitsI 64 z
def sgn (w : Nat) (v : Int) : Int := if v < 2 ^ (w - 1) then v else v - 2 ^ w
def getS (w : Nat) (l : List Bool) : Option (Int × List Bool) := (get w l).map fun q => (sgn w q.1, q.2)
def decZ : List Bool → Option (Int × List Bool)
  | false :: r => some (0, r)
  | true :: false :: r => getS 7 r
  | true :: true :: false :: r => getS 9 r
  | true :: true :: true :: false :: r => getS 12 r
  | true :: true :: true :: true :: r => getS 64 r
  | _ => none
theorem getS_bits (w : Nat) (z : Int) (r : List Bool) (hw : 0 < w) (h : -2 ^ (w - 1) ≤ z ∧ z < 2 ^ (w - 1)) : getS w (bitsI w z ++ r) = some (z, r) := by
  unfold getS
  rw [get_bits, Option.map_some]
  have hp : (2 : Int) ^ w = 2 * 2 ^ (w - 1) := by
    conv => lhs; rw [show w = (w - 1) + 1 by omega, Int.pow_succ]
    omega
  have e : sgn w (z % 2 ^ w) = z := by
    unfold sgn
    by_cases hz : 0 ≤ z
    · rw [Int.emod_eq_of_lt hz (by omega), if_pos h.2]
    · have h1 : z % 2 ^ w = z + 2 ^ w := by
        rw [← Int.add_emod_right]
        exact Int.emod_eq_of_lt (by omega) (by omega)
      rw [h1, if_neg (by omega)]
      omega
  rw [e]
theorem decZ_enc (z : Int) (r : List Bool) (h : -9223372036854775808 ≤ z ∧ z ≤ 9223372036854775807) : decZ (encZ z ++ r) = some (z, r) := by
  unfold encZ
  split
  · subst z; rfl
  · split
    · rename_i hz
      exact getS_bits 7 z r (by decide) (by simp; omega)
    · split
      · rename_i hz
        exact getS_bits 9 z r (by decide) (by simp; omega)
      · split
        · rename_i hz
          exact getS_bits 12 z r (by decide) (by simp; omega)
        · exact getS_bits 64 z r (by decide) (by simp; omega)
theorem getS_more {w : Nat} {l : List Bool} {v : Int} {r : List Bool} (h : getS w l = some (v, r)) (m : List Bool) : getS w (l ++ m) = some (v, r ++ m) := by
  unfold getS at h ⊢
  cases hg : get w l with
  | none => rw [hg] at h; cases h
  | some q =>
    rw [hg, Option.map_some, Option.some.injEq, Prod.mk.injEq] at h
    obtain ⟨rfl, rfl⟩ := h
    rw [get_more hg m]
    rfl
theorem decZ_more {l : List Bool} {v : Int} {r : List Bool} (h : decZ l = some (v, r)) (m : List Bool) : decZ (l ++ m) = some (v, r ++ m) := by
  match l, h with
  | false :: r', h => simp only [decZ, Option.some.injEq, Prod.mk.injEq] at h; obtain ⟨rfl, rfl⟩ := h; rfl
  | true :: false :: r', h => exact getS_more (l := r') h m
  | true :: true :: false :: r', h => exact getS_more (l := r') h m
  | true :: true :: true :: false :: r', h => exact getS_more (l := r') h m
  | true :: true :: true :: true :: r', h => exact getS_more (l := r') h m

/-- A value: (a, w): the window that was left. What is read is x, its bits between the window's ends. -/
def decV (a w : Int) (l : List Bool) : Option ((Int × Int × Int) × List Bool) :=
  match l with
  | false :: r => some ((0, a, w), r)
  | true :: false :: r => if a + w > 64 then none else (get w.toNat r).map fun q => ((q.1 * 2 ^ (64 - a - w).toNat, a, w), q.2)
  | true :: true :: r => (get 5 r).bind fun q => (get 6 q.2).bind fun s => if q.1 + (s.1 + 1) > 64 then none else (get (s.1 + 1).toNat s.2).map fun u => ((u.1 * 2 ^ (64 - q.1 - (s.1 + 1)).toNat, q.1, s.1 + 1), u.2)
  | _ => none
theorem decV_more {a w : Int} {l : List Bool} {v : Int × Int × Int} {r : List Bool} (h : decV a w l = some (v, r)) (m : List Bool) : decV a w (l ++ m) = some (v, r ++ m) := by
  match l, h with
  | false :: r', h => simp only [decV, Option.some.injEq, Prod.mk.injEq] at h; obtain ⟨rfl, rfl⟩ := h; rfl
  | true :: false :: r', h =>
    simp only [decV, List.cons_append] at h ⊢
    split at h
    · cases h
    · rename_i hc
      rw [if_neg hc]
      obtain ⟨q, hq, e⟩ := Option.map_eq_some_iff.1 h
      simp only [Prod.mk.injEq] at e
      obtain ⟨rfl, rfl⟩ := e
      rw [get_more (r := q.2) hq m]
      rfl
  | true :: true :: r', h =>
    simp only [decV, List.cons_append] at h ⊢
    obtain ⟨q, hq, h⟩ := Option.bind_eq_some_iff.1 h
    obtain ⟨s, hs, h⟩ := Option.bind_eq_some_iff.1 h
    rw [get_more (r := q.2) hq m, Option.bind_some]
    simp only []
    rw [get_more (r := s.2) hs m, Option.bind_some]
    split at h
    · cases h
    · rename_i hc
      simp only [if_neg hc]
      obtain ⟨u, hu, e⟩ := Option.map_eq_some_iff.1 h
      simp only [Prod.mk.injEq] at e
      obtain ⟨rfl, rfl⟩ := e
      rw [get_more (r := u.2) hu m]
      rfl
end Go.Proofs.YteahhkpbjkcmhaaDoor

/- A value as a string of bits, and back: the noughts ahead and behind. -/
namespace Go.Proofs.YteahhkpbjkcmhaaDoor
set_option linter.unusedVariables false

theorem pow2_pos (n : Nat) : (0 : Int) < 2 ^ n := Int.pow_pos (by decide)
def bitI (x : Int) (i : Nat) : Int := x / 2 ^ i % 2
def leadN (x : Int) : Nat := ((List.range 64).find? fun a => decide (bitI x (63 - a) = 1)).getD 64
def trailN (x : Int) : Nat := ((List.range 64).find? fun b => decide (bitI x b = 1)).getD 64
theorem find_range {n k : Nat} {f : Nat → Bool} (hk : k < n) (h1 : f k = true) (h0 : ∀ j, j < k → f j = false) : (List.range n).find? f = some k := by
  rw [List.find?_range_eq_some]
  exact ⟨h1, List.mem_range.2 hk, fun j hj => by simp [h0 j hj]⟩
theorem lead_is {x : Int} {a : Nat} (ha : a < 64) (h1 : bitI x (63 - a) = 1) (h0 : ∀ j, j < a → bitI x (63 - j) = 0) : leadN x = a := by
  unfold leadN
  rw [find_range ha (by simpa using h1) (fun j hj => by simp [h0 j hj])]
  rfl
theorem trail_is {x : Int} {b : Nat} (hb : b < 64) (h1 : bitI x b = 1) (h0 : ∀ j, j < b → bitI x j = 0) : trailN x = b := by
  unfold trailN
  rw [find_range hb (by simpa using h1) (fun j hj => by simp [h0 j hj])]
  rfl
theorem bitI_01 (x : Int) (i : Nat) : bitI x i = 0 ∨ bitI x i = 1 := by unfold bitI; omega
/-- A first 1 there is. -/
theorem first_one (f : Nat → Int) (hf : ∀ i, f i = 0 ∨ f i = 1) : ∀ n, (∀ j, j < n → f j = 0) ∨ ∃ k, k < n ∧ f k = 1 ∧ ∀ j, j < k → f j = 0
  | 0 => .inl fun j hj => absurd hj (Nat.not_lt_zero _)
  | n + 1 => by
    rcases first_one f hf n with h | ⟨k, hk, h1, h0⟩
    · rcases hf n with e | e
      · left
        intro j hj
        by_cases hjn : j = n
        · subst hjn; exact e
        · exact h j (by omega)
      · exact .inr ⟨n, by omega, e, h⟩
    · exact .inr ⟨k, by omega, h1, h0⟩
theorem low_zero {x : Int} : ∀ q : Nat, (∀ j, j < q → bitI x j = 0) → x % 2 ^ q = 0
  | 0, _ => by simp [Int.emod_one]
  | q + 1, h => by
    have ih := low_zero (x := x) q (fun j hj => h j (by omega))
    have hb := h q (by omega)
    unfold bitI at hb
    have hp := pow2_pos q
    have e1 := Int.mul_ediv_add_emod x (2 ^ q)
    have e2 := Int.mul_ediv_add_emod (x / 2 ^ q) 2
    rw [Int.pow_succ]
    have e3 : x = (2 ^ q * 2) * (x / 2 ^ q / 2) := by
      rw [Int.mul_assoc]
      have e4 : x / 2 ^ q = 2 * (x / 2 ^ q / 2) := by omega
      rw [← e4]; omega
    rw [e3]
    exact Int.mul_emod_right _ _
theorem high_zero {x : Int} (h0 : 0 ≤ x) (h1 : x < 2 ^ 64) : ∀ a : Nat, a ≤ 64 → (∀ j, j < a → bitI x (63 - j) = 0) → x < 2 ^ (64 - a)
  | 0, _, _ => h1
  | a + 1, ha, h => by
    have ih := high_zero h0 h1 a (by omega) (fun j hj => h j (by omega))
    have hb := h a (by omega)
    unfold bitI at hb
    rw [show 64 - a = (63 - a) + 1 by omega, Int.pow_succ] at ih
    rw [show 64 - (a + 1) = 63 - a by omega]
    have hp := pow2_pos (63 - a)
    have e1 : x / 2 ^ (63 - a) < 2 := Int.ediv_lt_of_lt_mul hp (by omega)
    have e2 : 0 ≤ x / 2 ^ (63 - a) := Int.ediv_nonneg h0 (by omega)
    have e3 : x / 2 ^ (63 - a) = 0 := by omega
    have e4 := Int.mul_ediv_add_emod x (2 ^ (63 - a))
    have e5 := Int.emod_lt_of_pos x hp
    rw [e3, Int.mul_zero] at e4
    omega
theorem edges_of {x : Int} (h0 : 0 < x) (h1 : x < 2 ^ 64) : (leadN x < 64 ∧ bitI x (63 - leadN x) = 1 ∧ ∀ j, j < leadN x → bitI x (63 - j) = 0) ∧ (trailN x < 64 ∧ bitI x (trailN x) = 1 ∧ ∀ j, j < trailN x → bitI x j = 0) := by
  constructor
  · rcases first_one (fun j => bitI x (63 - j)) (fun i => bitI_01 x _) 64 with h | ⟨k, hk, e1, e0⟩
    · have := high_zero (by omega) h1 64 (by omega) h
      simp at this
      omega
    · rw [lead_is hk e1 e0]
      exact ⟨hk, e1, e0⟩
  · rcases first_one (fun j => bitI x j) (fun i => bitI_01 x _) 64 with h | ⟨k, hk, e1, e0⟩
    · have e := low_zero 64 h
      rw [Int.emod_eq_of_lt (by omega) h1] at e
      omega
    · rw [trail_is hk e1 e0]
      exact ⟨hk, e1, e0⟩
theorem edges_facts {x : Int} (h0 : 0 < x) (h1 : x < 2 ^ 64) : leadN x + trailN x ≤ 63 ∧ x < 2 ^ (64 - leadN x) ∧ x % 2 ^ trailN x = 0 := by
  obtain ⟨⟨a1, a2, a3⟩, b1, b2, b3⟩ := edges_of h0 h1
  refine ⟨?_, high_zero (by omega) h1 _ (by omega) a3, low_zero _ b3⟩
  by_cases h : trailN x ≤ 63 - leadN x
  · omega
  · have := b3 (63 - leadN x) (by omega)
    omega

/-- A value's bits, and the window that it leaves ((a, b); a = -1: none). -/
def encV (a b x : Int) : List Bool × Int × Int :=
  if x = 0 then ([false], a, b)
  else if 0 ≤ a ∧ a ≤ min (leadN x : Int) 31 ∧ b ≤ trailN x then ([true, false] ++ bitsI (64 - a - b).toNat (x / 2 ^ b.toNat), a, b)
  else ([true, true] ++ (bitsI 5 (min (leadN x : Int) 31) ++ (bitsI 6 (64 - min (leadN x : Int) 31 - trailN x - 1) ++ bitsI (64 - min (leadN x : Int) 31 - trailN x).toNat (x / 2 ^ trailN x))), min (leadN x : Int) 31, trailN x)
/-- What the reader has of a window. -/
def WinR (a b A w : Int) : Prop := (a = -1) ∨ (0 ≤ a ∧ a ≤ 31 ∧ 0 ≤ b ∧ a + b ≤ 63 ∧ A = a ∧ w = 64 - a - b)
theorem window_back {x : Int} {a b : Nat} (h0 : 0 ≤ x) (hab : a + b ≤ 63) (hlt : x < 2 ^ (64 - a)) (hm : x % 2 ^ b = 0) : x / 2 ^ b % 2 ^ (64 - a - b) * 2 ^ b = x := by
  have hp := pow2_pos b
  have e : (2 : Int) ^ (64 - a) = 2 ^ (64 - a - b) * 2 ^ b := by rw [← Int.pow_add]; congr 1; omega
  have e1 : x / 2 ^ b < 2 ^ (64 - a - b) := Int.ediv_lt_of_lt_mul hp (by omega)
  rw [Int.emod_eq_of_lt (Int.ediv_nonneg h0 (by omega)) e1]
  have := Int.mul_ediv_add_emod x (2 ^ b)
  rw [hm, Int.mul_comm] at this
  omega
theorem pow2_le {a b : Nat} (h : a ≤ b) : (2 : Int) ^ a ≤ 2 ^ b := by
  have e : (2 : Int) ^ b = 2 ^ a * 2 ^ (b - a) := by rw [← Int.pow_add]; congr 1; omega
  have h1 := pow2_pos a
  have h2 := pow2_pos (b - a)
  have h3 : (2 : Int) ^ a * 1 ≤ 2 ^ a * 2 ^ (b - a) := Int.mul_le_mul_of_nonneg_left (by omega) (by omega)
  omega
theorem mod_low {x : Int} {a b : Nat} (h : a ≤ b) (hm : x % 2 ^ b = 0) : x % 2 ^ a = 0 := by
  have e : (2 : Int) ^ b = 2 ^ a * 2 ^ (b - a) := by rw [← Int.pow_add]; congr 1; omega
  have h1 := Int.mul_ediv_add_emod x (2 ^ b)
  rw [hm, e] at h1
  rw [← h1, Int.add_zero, Int.mul_assoc]
  exact Int.mul_emod_right _ _
theorem decV_enc {a b A w x : Int} (r : List Bool) (hw : WinR a b A w) (h0 : 0 ≤ x) (h1 : x < 2 ^ 64) : ∃ A' w', decV A w ((encV a b x).1 ++ r) = some ((x, A', w'), r) ∧ WinR (encV a b x).2.1 (encV a b x).2.2 A' w' := by
  unfold encV
  by_cases hx : x = 0
  · subst hx
    rw [if_pos rfl]
    exact ⟨A, w, rfl, hw⟩
  · rw [if_neg hx]
    obtain ⟨f1, f2, f3⟩ := edges_facts (show 0 < x by omega) h1
    by_cases hc : 0 ≤ a ∧ a ≤ min (leadN x : Int) 31 ∧ b ≤ trailN x
    · rw [if_pos hc]
      rcases hw with e | ⟨w0, w1, w2, w3, eA, ew⟩
      · omega
      rw [eA, ew]
      clear eA ew
      obtain ⟨c, rfl⟩ : ∃ c : Nat, a = c := ⟨a.toNat, by omega⟩
      obtain ⟨d, rfl⟩ : ∃ d : Nat, b = d := ⟨b.toNat, by omega⟩
      have e1 : ((64 : Int) - c - d).toNat = 64 - c - d := by omega
      have e2 : ((d : Int)).toNat = d := by omega
      have e3 : ((64 : Int) - c - (64 - c - d)).toNat = d := by omega
      refine ⟨c, 64 - c - d, ?_, .inr ⟨w0, w1, w2, w3, rfl, rfl⟩⟩
      rw [e1, e2]
      show decV _ _ (true :: false :: (bitsI (64 - c - d) (x / 2 ^ d) ++ r)) = _
      simp only [decV]
      rw [if_neg (by omega), e1, get_bits, Option.map_some]
      simp only [e3]
      rw [window_back h0 (by omega) (Int.lt_of_lt_of_le f2 (pow2_le (by omega))) (mod_low (by omega) f3)]
    · rw [if_neg hc]
      obtain ⟨c, ec⟩ : ∃ c : Nat, min (leadN x : Int) 31 = c := ⟨(min (leadN x : Int) 31).toNat, by omega⟩
      obtain ⟨d, ed⟩ : ∃ d : Nat, trailN x = d := ⟨_, rfl⟩
      rw [ec, ed]
      rw [ed] at f1 f3
      have e1 : ((64 : Int) - c - d).toNat = 64 - c - d := by omega
      have e3 : ((64 : Int) - c - (64 - c - d - 1 + 1)).toNat = d := by omega
      have e4 : ((64 : Int) - c - d - 1 + 1).toNat = 64 - c - d := by omega
      have hW : WinR (c : Int) (d : Int) c (64 - c - d) := .inr ⟨by omega, by omega, by omega, by omega, rfl, rfl⟩
      refine ⟨c, 64 - c - d, ?_, hW⟩
      rw [e1]
      show decV _ _ (true :: true :: ((bitsI 5 c ++ (bitsI 6 (64 - c - d - 1) ++ bitsI (64 - c - d) (x / 2 ^ d))) ++ r)) = _
      simp only [decV]
      rw [List.append_assoc, get_bits, Option.bind_some]
      simp only []
      rw [List.append_assoc, get_bits, Option.bind_some]
      have m5 : (c : Int) % 2 ^ 5 = c := Int.emod_eq_of_lt (by omega) (by simp; omega)
      have m6 : ((64 : Int) - c - d - 1) % 2 ^ 6 = 64 - c - d - 1 := Int.emod_eq_of_lt (by omega) (by simp; omega)
      simp only [m5, m6]
      rw [if_neg (by omega), e4, get_bits, Option.map_some]
      simp only [e3]
      rw [window_back h0 (by omega) (Int.lt_of_lt_of_le f2 (pow2_le (by omega))) f3]
      simp only [Option.some.injEq, Prod.mk.injEq, true_and, and_true]
      omega
end Go.Proofs.YteahhkpbjkcmhaaDoor

/- Points one behind another as a string of bits, and back. -/
namespace Go.Proofs.YteahhkpbjkcmhaaDoor
set_option linter.unusedVariables false

theorem wrap_id (x : Int) (h : -9223372036854775808 ≤ x ∧ x ≤ 9223372036854775807) : IntKind.i64.wrap x = x := by
  unfold IntKind.wrap
  simp only [IntKind.bits, IntKind.signed]
  simp
  split <;> omega
def xorI (a b : Int) : Int := ((a.toNat ^^^ b.toNat : Nat) : Int)
theorem xorI_bd {a b : Int} (ha : 0 ≤ a ∧ a < 2 ^ 64) (hb : 0 ≤ b ∧ b < 2 ^ 64) : 0 ≤ xorI a b ∧ xorI a b < 2 ^ 64 := by
  unfold xorI
  have := Nat.xor_lt_two_pow (x := a.toNat) (y := b.toNat) (n := 64) (by omega) (by omega)
  omega
theorem xorI_back {v u : Int} (hv : 0 ≤ v) (hu : 0 ≤ u) : xorI v (xorI u v) = u := by
  unfold xorI
  rw [Int.toNat_natCast, Nat.xor_comm u.toNat, ← Nat.xor_assoc, Nat.xor_self, Nat.zero_xor]
  omega

/-- The bits of points behind one of time t, value v, with the step d ahead and a window. -/
def encL : Int → Int → Int → Int → Int → List Pt → List Bool
  | _, _, _, _, _, [] => []
  | t, v, d, a, b, q :: r => encZ (q.1 - t - d) ++ ((encV a b (xorI q.2 v)).1 ++ encL q.1 q.2 (q.1 - t) (encV a b (xorI q.2 v)).2.1 (encV a b (xorI q.2 v)).2.2 r)
def decL : Nat → Int → Int → Int → Int → Int → List Bool → Option (List Pt × List Bool)
  | 0, _, _, _, _, _, l => some ([], l)
  | n + 1, t, v, d, a, w, l => (decZ l).bind fun z => (decV a w z.2).bind fun x =>
      (decL n (IntKind.i64.wrap (t + IntKind.i64.wrap (d + z.1))) (xorI v x.1.1) (IntKind.i64.wrap (d + z.1)) x.1.2.1 x.1.2.2 x.2).map fun u => ((IntKind.i64.wrap (t + IntKind.i64.wrap (d + z.1)), xorI v x.1.1) :: u.1, u.2)
def okT (t : Int) : Prop := -1099511627776 ≤ t ∧ t ≤ 1099511627776
def okV (v : Int) : Prop := 0 ≤ v ∧ v < 2 ^ 64
/-- Points that may follow one of time t. -/
def okL : Int → List Pt → Prop
  | _, [] => True
  | t, q :: r => t < q.1 ∧ okT q.1 ∧ okV q.2 ∧ okL q.1 r
theorem decL_enc : ∀ (ps : List Pt) (t v d a b A w : Int) (r : List Bool), okT t → okV v → (-9223372036854 ≤ d ∧ d ≤ 9223372036854) → okL t ps → WinR a b A w → decL ps.length t v d A w (encL t v d a b ps ++ r) = some (ps, r)
  | [], t, v, d, a, b, A, w, r, ht, hv, hd, ho, hw => rfl
  | q :: ps, t, v, d, a, b, A, w, r, ht, hv, hd, ho, hw => by
    obtain ⟨h1, h2, h3, h4⟩ := ho
    unfold okT at ht h2
    have hx := xorI_bd h3 hv
    obtain ⟨A', w', hV, hw'⟩ := decV_enc (a := a) (b := b) (A := A) (w := w) (x := xorI q.2 v) (encL q.1 q.2 (q.1 - t) (encV a b (xorI q.2 v)).2.1 (encV a b (xorI q.2 v)).2.2 ps ++ r) hw hx.1 hx.2
    have ih := decL_enc ps q.1 q.2 (q.1 - t) _ _ A' w' r h2 h3 (by omega) h4 hw'
    rw [List.length_cons]
    simp only [encL, decL, List.append_assoc]
    rw [decZ_enc _ _ (by omega), Option.bind_some]
    simp only []
    rw [hV, Option.bind_some]
    simp only []
    have e1 : IntKind.i64.wrap (d + (q.1 - t - d)) = q.1 - t := by rw [wrap_id _ (by omega)]; omega
    have e2 : IntKind.i64.wrap (t + (q.1 - t)) = q.1 := by rw [wrap_id _ (by omega)]; omega
    rw [e1, e2, xorI_back hv.1 h3.1, ih]
    rfl
theorem decL_more : ∀ {n : Nat} {t v d a w : Int} {l : List Bool} {ps : List Pt} {r : List Bool}, decL n t v d a w l = some (ps, r) → ∀ m, decL n t v d a w (l ++ m) = some (ps, r ++ m)
  | 0, t, v, d, a, w, l, ps, r, h, m => by
    simp only [decL, Option.some.injEq, Prod.mk.injEq] at h ⊢
    obtain ⟨rfl, rfl⟩ := h
    exact ⟨rfl, rfl⟩
  | n + 1, t, v, d, a, w, l, ps, r, h, m => by
    simp only [decL] at h ⊢
    obtain ⟨z, hz, h⟩ := Option.bind_eq_some_iff.1 h
    obtain ⟨x, hx, h⟩ := Option.bind_eq_some_iff.1 h
    obtain ⟨u, hu, e⟩ := Option.map_eq_some_iff.1 h
    simp only [Prod.mk.injEq] at e
    obtain ⟨rfl, rfl⟩ := e
    rw [decZ_more (r := z.2) hz m, Option.bind_some]
    simp only []
    rw [decV_more (r := x.2) hx m, Option.bind_some]
    simp only []
    rw [decL_more (ps := u.1) (r := u.2) hu m]
    rfl
/-- Points' bits. -/
def encP : List Pt → List Bool
  | [] => bitsI 13 0
  | q :: r => bitsI 13 ((r.length : Int) + 1) ++ (bitsI 64 q.1 ++ (bitsI 64 q.2 ++ encL q.1 q.2 0 (-1) 0 r))
def decP (l : List Bool) : Option (List Pt × List Bool) :=
  (get 13 l).bind fun n => if n.1 = 0 then some ([], n.2) else (getS 64 n.2).bind fun t => (get 64 t.2).bind fun v =>
    (decL (n.1.toNat - 1) t.1 v.1 0 0 0 v.2).map fun u => ((t.1, v.1) :: u.1, u.2)
def okP : List Pt → Prop
  | [] => True
  | q :: r => okT q.1 ∧ okV q.2 ∧ okL q.1 r
theorem decP_enc (ps : List Pt) (r : List Bool) (ho : okP ps) (hl : ps.length ≤ 8191) : decP (encP ps ++ r) = some (ps, r) := by
  cases ps with
  | nil =>
    simp only [encP, decP]
    rw [get_bits, Option.bind_some]
    rfl
  | cons q ps =>
    obtain ⟨h1, h2, h3⟩ := ho
    rw [List.length_cons] at hl
    have h1' := h1
    unfold okT at h1'
    simp only [encP, decP, List.append_assoc]
    have e13 : ((ps.length : Int) + 1) % 2 ^ 13 = (ps.length : Int) + 1 := Int.emod_eq_of_lt (by omega) (by simp; omega)
    have e64 : q.2 % 2 ^ 64 = q.2 := Int.emod_eq_of_lt h2.1 h2.2
    rw [get_bits, Option.bind_some]
    simp only [e13]
    rw [if_neg (by omega), getS_bits 64 q.1 _ (by decide) (by simp; omega), Option.bind_some]
    simp only []
    rw [get_bits, Option.bind_some]
    simp only [e64]
    rw [show ((ps.length : Int) + 1).toNat - 1 = ps.length by omega, decL_enc ps q.1 q.2 0 (-1) 0 0 0 r h1 h2 (by omega) h3 (.inl rfl)]
    rfl
theorem decP_more {l : List Bool} {ps : List Pt} {r : List Bool} (h : decP l = some (ps, r)) (m : List Bool) : decP (l ++ m) = some (ps, r ++ m) := by
  unfold decP at h ⊢
  obtain ⟨n, hn, h⟩ := Option.bind_eq_some_iff.1 h
  rw [get_more (r := n.2) hn m, Option.bind_some]
  simp only []
  split at h
  · rename_i h0
    rw [if_pos h0]
    simp only [Option.some.injEq, Prod.mk.injEq] at h ⊢
    obtain ⟨rfl, rfl⟩ := h
    exact ⟨rfl, rfl⟩
  · rename_i h0
    rw [if_neg h0]
    obtain ⟨t, ht, h⟩ := Option.bind_eq_some_iff.1 h
    obtain ⟨v, hv, h⟩ := Option.bind_eq_some_iff.1 h
    obtain ⟨u, hu, e⟩ := Option.map_eq_some_iff.1 h
    simp only [Prod.mk.injEq] at e
    obtain ⟨rfl, rfl⟩ := e
    rw [getS_more (r := t.2) ht m, Option.bind_some]
    simp only []
    rw [get_more (r := v.2) hv m, Option.bind_some]
    simp only []
    rw [decL_more (ps := u.1) (r := u.2) hu m]
    rfl
end Go.Proofs.YteahhkpbjkcmhaaDoor

/- Strings of bits as bytes; points' bytes: read back, never a beginning of others, of what length. -/
namespace Go.Proofs.YteahhkpbjkcmhaaDoor
set_option linter.unusedVariables false

def byteL (l : List Bool) (i : Nat) : Int := valI ((List.range 8).map fun j => l.getD (8 * i + j) false)
/-- Bits as bytes, the last one filled with noughts. -/
def pack (l : List Bool) : List Int := (List.range ((l.length + 7) / 8)).map (byteL l)
def unpack (zs : List Int) : List Bool := zs.flatMap (bitsI 8)
theorem pack_len (l : List Bool) : (pack l).length = (l.length + 7) / 8 := by simp [pack]
theorem unpack_app (xs ys : List Int) : unpack (xs ++ ys) = unpack xs ++ unpack ys := by simp [unpack]
theorem unpack_len (zs : List Int) : (unpack zs).length = 8 * zs.length := by
  induction zs with
  | nil => rfl
  | cons z zs ih =>
    rw [show unpack (z :: zs) = bitsI 8 z ++ unpack zs from List.flatMap_cons .., List.length_append, bitsI_len, ih, List.length_cons]
    omega
theorem range_eights (f : Nat → Bool) : ∀ n, ((List.range n).flatMap fun i => (List.range 8).map fun j => f (8 * i + j)) = (List.range (8 * n)).map f
  | 0 => rfl
  | n + 1 => by
    rw [List.range_succ (n := n), List.flatMap_append, range_eights f n, show 8 * (n + 1) = 8 * n + 8 by omega, List.range_add, List.map_append]
    simp [List.flatMap_cons, List.map_map, Function.comp_def]
theorem unpack_pack (l : List Bool) : unpack (pack l) = l ++ List.replicate (8 * ((l.length + 7) / 8) - l.length) false := by
  have h1 : unpack (pack l) = (List.range (8 * ((l.length + 7) / 8))).map fun k => l.getD k false := by
    unfold unpack pack
    rw [List.flatMap_map, ← range_eights]
    rw [List.flatMap_def, List.flatMap_def]
    congr 1
    refine List.map_congr_left fun i _ => ?_
    have := bits_val ((List.range 8).map fun j => l.getD (8 * i + j) false)
    rw [List.length_map, List.length_range] at this
    exact this
  rw [h1]
  apply List.ext_getElem?
  intro k
  rw [List.getElem?_map]
  by_cases hk : k < 8 * ((l.length + 7) / 8)
  · rw [List.getElem?_range hk, Option.map_some]
    by_cases hl : k < l.length
    · rw [List.getElem?_append_left hl, List.getD_eq_getElem?_getD, List.getElem?_eq_getElem hl]
      rfl
    · rw [List.getElem?_append_right (by omega), List.getElem?_replicate, if_pos (by omega), List.getD_eq_getElem?_getD, List.getElem?_eq_none (by omega)]
      rfl
  · rw [List.getElem?_eq_none (by simp; omega), List.getElem?_eq_none (by simp; omega)]
    rfl
def okTs : Int → List Pt → Bool
  | _, [] => true
  | t, q :: r => decide (t < q.1) && (decide (-1099511627776 ≤ q.1) && decide (q.1 ≤ 1099511627776)) && okTs q.1 r
/-- The times may be. -/
def okTimes : List Pt → Bool
  | [] => true
  | q :: r => (decide (-1099511627776 ≤ q.1) && decide (q.1 ≤ 1099511627776)) && okTs q.1 r
theorem okL_of : ∀ {t : Int} {ps : List Pt}, okTs t ps = true → (∀ q ∈ ps, okV q.2) → okL t ps
  | t, [], _, _ => trivial
  | t, q :: r, h, hv => by
    simp only [okTs, Bool.and_eq_true, decide_eq_true_eq] at h
    exact ⟨h.1.1, h.1.2, hv q (by simp), okL_of h.2 (fun x hx => hv x (by simp [hx]))⟩
theorem okP_of {ps : List Pt} (h : okTimes ps = true) (hv : ∀ q ∈ ps, okV q.2) : okP ps := by
  cases ps with
  | nil => trivial
  | cons q r =>
    simp only [okTimes, Bool.and_eq_true, decide_eq_true_eq] at h
    exact ⟨h.1, hv q (by simp), okL_of h.2 (fun x hx => hv x (by simp [hx]))⟩
def decR (b : List Int) : Option (List Pt) :=
  match decP (unpack b) with
  | none => none
  | some (ps, _) => if okTimes ps = true ∧ pack (encP ps) = b then some ps else none
theorem decP_pack {ps : List Pt} (ho : okP ps) (hl : ps.length ≤ 8191) : ∃ r, decP (unpack (pack (encP ps))) = some (ps, r) := by
  rw [unpack_pack]
  exact ⟨_, decP_enc ps _ ho hl⟩
theorem dec_back {ps : List Pt} (ht : okTimes ps = true) (hv : ∀ q ∈ ps, okV q.2) (hl : ps.length ≤ 8191) : decR (pack (encP ps)) = some ps := by
  obtain ⟨r, h⟩ := decP_pack (okP_of ht hv) hl
  unfold decR
  rw [h]
  simp only []
  rw [if_pos ⟨ht, trivial⟩]
theorem dec_strict {b : List Int} {ps : List Pt} (h : decR b = some ps) : okTimes ps = true ∧ pack (encP ps) = b ∧ ∃ r, decP (unpack b) = some (ps, r) := by
  unfold decR at h
  cases hd : decP (unpack b) with
  | none => rw [hd] at h; cases h
  | some q =>
    rw [hd] at h
    simp only [] at h
    split at h
    · rename_i hc
      simp only [Option.some.injEq] at h
      subst h
      exact ⟨hc.1, hc.2, q.2, rfl⟩
    · cases h
theorem enc_inj {ps qs : List Pt} (ht : okTimes ps = true) (hv : ∀ q ∈ ps, okV q.2) (hl : ps.length ≤ 8191) (ht' : okTimes qs = true) (hv' : ∀ q ∈ qs, okV q.2) (hl' : qs.length ≤ 8191) (h : pack (encP ps) = pack (encP qs)) : ps = qs := by
  have h1 := dec_back ht hv hl
  rw [h, dec_back ht' hv' hl'] at h1
  exact (Option.some.inj h1).symm
/-- Of two strings of bytes, one a beginning of the other, not both are points'. -/
theorem dec_cut {ps : List Pt} (ht : okTimes ps = true) (hv : ∀ q ∈ ps, okV q.2) (hl : ps.length ≤ 8191) {x y : List Int} (h : pack (encP ps) = x ++ y) (hy : y ≠ []) : decR x = none := by
  cases hx : decR x with
  | none => rfl
  | some qs =>
    exfalso
    obtain ⟨h1, h2, r, h3⟩ := dec_strict hx
    have h4 := decP_more h3 (unpack y)
    rw [← unpack_app, ← h] at h4
    obtain ⟨r', h5⟩ := decP_pack (okP_of ht hv) hl
    rw [h5] at h4
    simp only [Option.some.injEq, Prod.mk.injEq] at h4
    rw [h4.1, h2] at h
    have := congrArg List.length h
    rw [List.length_append] at this
    exact hy (List.length_eq_zero_iff.1 (by omega))
theorem dec_past {ps : List Pt} (ht : okTimes ps = true) (hv : ∀ q ∈ ps, okV q.2) (hl : ps.length ≤ 8191) {y : List Int} (hy : y ≠ []) : decR (pack (encP ps) ++ y) = none := by
  cases hx : decR (pack (encP ps) ++ y) with
  | none => rfl
  | some qs =>
    exfalso
    obtain ⟨h1, h2, r, h3⟩ := dec_strict hx
    obtain ⟨r', h5⟩ := decP_pack (okP_of ht hv) hl
    have h4 := decP_more h5 (unpack y)
    rw [← unpack_app, h3] at h4
    simp only [Option.some.injEq, Prod.mk.injEq] at h4
    rw [h4.1] at h2
    have := congrArg List.length h2
    rw [List.length_append] at this
    exact hy (List.length_eq_zero_iff.1 (by omega))
/-- A beginning of points has a beginning of the bits. -/
theorem encL_take : ∀ (ps : List Pt) (k : Nat) (t v d a b : Int), ∃ r, encL t v d a b ps = encL t v d a b (ps.take k) ++ r
  | ps, 0, t, v, d, a, b => ⟨encL t v d a b ps, rfl⟩
  | [], k + 1, t, v, d, a, b => ⟨[], rfl⟩
  | q :: ps, k + 1, t, v, d, a, b => by
    obtain ⟨r, h⟩ := encL_take ps k q.1 q.2 (q.1 - t) (encV a b (xorI q.2 v)).2.1 (encV a b (xorI q.2 v)).2.2
    refine ⟨r, ?_⟩
    rw [List.take_succ_cons]
    simp only [encL, List.append_assoc]
    rw [h]
theorem encP_take (ps : List Pt) (k : Nat) : ∃ r, (encP ps).drop 13 = (encP (ps.take k)).drop 13 ++ r := by
  have h0 : ∀ v, (bitsI 13 v).drop 13 = [] := fun v => List.drop_eq_nil_of_le (by rw [bitsI_len]; exact Nat.le_refl _)
  cases k with
  | zero => exact ⟨(encP ps).drop 13, by rw [List.take_zero]; simp only [encP]; rw [h0]; rfl⟩
  | succ k =>
    cases ps with
    | nil => exact ⟨[], by simp⟩
    | cons q r =>
      obtain ⟨s, h⟩ := encL_take r k q.1 q.2 0 (-1) 0
      refine ⟨s, ?_⟩
      rw [List.take_succ_cons]
      simp only [encP]
      rw [List.drop_append_of_le_length (by rw [bitsI_len]; exact Nat.le_refl _), List.drop_append_of_le_length (by rw [bitsI_len]; exact Nat.le_refl _), h0, h0, List.nil_append, List.nil_append, h]
      simp only [List.append_assoc]
theorem encP_min (ps : List Pt) : 13 ≤ (encP ps).length := by
  cases ps with
  | nil => simp [encP, bitsI_len]
  | cons q r => simp only [encP, List.length_append, bitsI_len]; omega
end Go.Proofs.YteahhkpbjkcmhaaDoor

/- Strings of bits and lists of bytes by their bits (texts Math, Bitmath): one and the same. -/
namespace Go.Proofs.YteahhkpbjkcmhaaDoor
set_option linter.unusedVariables false

theorem b2i_01 (b : Bool) : 0 ≤ b2i b ∧ b2i b ≤ 1 := by unfold b2i; split <;> omega
theorem pack_ofBits (l : List Bool) : pack l = ofBits ((l.length + 7) / 8) (fun i => b2i (l.getD i false)) := by
  unfold pack ofBits
  refine List.map_congr_left fun i _ => ?_
  have e : (List.range 8).map (fun j => l.getD (8 * i + j) false) = [l.getD (8 * i) false, l.getD (8 * i + 1) false, l.getD (8 * i + 2) false, l.getD (8 * i + 3) false, l.getD (8 * i + 4) false, l.getD (8 * i + 5) false, l.getD (8 * i + 6) false, l.getD (8 * i + 7) false] := rfl
  unfold byteL
  rw [e]
  simp only [valI, List.foldl_cons, List.foldl_nil]
  omega
theorem pack_byte (l : List Bool) : ∀ z ∈ pack l, 0 ≤ z ∧ z ≤ 255 := by rw [pack_ofBits]; exact ofBits_byte _ _ fun i => b2i_01 _
theorem pack_bit (l : List Bool) (i : Nat) : bitOf (pack l) i = b2i (l.getD i false) := by
  by_cases h : i < 8 * ((l.length + 7) / 8)
  · rw [pack_ofBits]; exact ofBits_bit _ _ (fun i => b2i_01 _) i h
  · rw [bitOf_past _ _ (by rw [pack_len]; omega), List.getD_eq_getElem?_getD, List.getElem?_eq_none (by omega)]
    rfl
theorem bitsI_get (k : Nat) (v : Int) (j : Nat) (hj : j < k) : b2i ((bitsI k v).getD j false) = v / 2 ^ (k - 1 - j) % 2 := by
  unfold bitsI
  rw [List.getD_eq_getElem?_getD, List.getElem?_map, List.getElem?_range hj, Option.map_some, Option.getD_some]
  unfold b2i
  have : v / 2 ^ (k - 1 - j) % 2 = 0 ∨ v / 2 ^ (k - 1 - j) % 2 = 1 := by omega
  rcases this with h | h <;> simp [h]
theorem getD_app (l r : List Bool) (i : Nat) : (l ++ r).getD i false = if i < l.length then l.getD i false else r.getD (i - l.length) false := by
  simp only [List.getD_eq_getElem?_getD]
  split
  · rename_i h; rw [List.getElem?_append_left h]
  · rename_i h; rw [List.getElem?_append_right (by omega)]
/-- Bits laid behind a string's bytes are the longer string's bytes. -/
theorem app_pack (l : List Bool) (v : Int) (k : Nat) : app (pack l) l.length v k = pack (l ++ bitsI k v) := by
  refine (app_eq (pack_byte _) (by rw [pack_len, List.length_append, bitsI_len]) fun i => ?_).symm
  rw [pack_bit, getD_app, appBit]
  split
  · rw [pack_bit]
  · split
    · exact bitsI_get k v _ (by omega)
    · rw [List.getD_eq_getElem?_getD, List.getElem?_eq_none (by rw [bitsI_len]; omega)]
      rfl
theorem unpack_bit (zs : List Int) : ∀ i, i < 8 * zs.length → (unpack zs)[i]? = some (decide (bitOf zs i = 1)) := by
  induction zs with
  | nil => intro i hi; simp at hi
  | cons z zs ih =>
    intro i hi
    rw [List.length_cons] at hi
    rw [show unpack (z :: zs) = bitsI 8 z ++ unpack zs from List.flatMap_cons ..]
    by_cases h : i < 8
    · rw [List.getElem?_append_left (by rw [bitsI_len]; exact h)]
      unfold bitsI bitOf
      rw [List.getElem?_map, List.getElem?_range h, Option.map_some, show i / 8 = 0 by omega, show i % 8 = i by omega]
      rfl
    · rw [List.getElem?_append_right (by rw [bitsI_len]; omega), bitsI_len, ih (i - 8) (by omega)]
      unfold bitOf
      rw [show i / 8 = (i - 8) / 8 + 1 by omega, show (i - 8) % 8 = i % 8 by omega]
      rfl
/-- What k bits from p on stand for. -/
theorem rdv_unpack (zs : List Int) (p : Nat) : ∀ k, p + k ≤ 8 * zs.length → rdv zs p k = valI (((unpack zs).drop p).take k)
  | 0, _ => by simp [rdv, valI]
  | k + 1, h => by
    have ih := rdv_unpack zs p k (by omega)
    have hb := unpack_bit zs (p + k) (by omega)
    have e : ((unpack zs).drop p)[k]? = some (decide (bitOf zs (p + k) = 1)) := by rw [List.getElem?_drop]; exact hb
    rw [List.take_add_one, e, Option.toList_some, valI_snoc, ← ih]
    have h01 := bitOf_01 zs (p + k)
    have : b2i (decide (bitOf zs (p + k) = 1)) = bitOf zs (p + k) := by
      unfold b2i
      by_cases h1 : bitOf zs (p + k) = 1
      · simp [h1]
      · simp [h1]; omega
    rw [this]
    simp only [rdv]
    omega
/-- Reading off a list of bytes. -/
theorem get_rdv (zs : List Int) (p k : Nat) (h : p + k ≤ 8 * zs.length) : get k ((unpack zs).drop p) = some (rdv zs p k, (unpack zs).drop (p + k)) := by
  unfold get
  rw [if_pos (by rw [List.length_drop, unpack_len]; omega), rdv_unpack zs p k h, List.drop_drop]
theorem get_short (zs : List Int) (p k : Nat) (h : 8 * zs.length < p + k) (hk : 0 < k) : get k ((unpack zs).drop p) = none := by
  unfold get
  rw [if_neg (by rw [List.length_drop, unpack_len]; omega)]
end Go.Proofs.YteahhkpbjkcmhaaDoor

/- One bit more at a string's bytes. -/
namespace Go.Proofs.YteahhkpbjkcmhaaDoor
set_option linter.unusedVariables false

theorem hpad_bit (zs : List Int) (i : Nat) : bitOf (zs ++ [0]) i = bitOf zs i := by
  unfold bitOf
  simp only [List.getD_eq_getElem?_getD]
  by_cases h : i / 8 < zs.length
  · rw [List.getElem?_append_left h]
  · rw [List.getElem?_append_right (by omega), List.getElem?_eq_none (l := zs) (by omega)]
    by_cases h1 : i / 8 - zs.length = 0
    · rw [h1]; rfl
    · rw [List.getElem?_eq_none (by simp; omega)]
/-- The bytes with room for one bit more. -/
def room (l : List Bool) : List Int := if l.length % 8 = 0 then pack l ++ [0] else pack l
theorem room_len (l : List Bool) : (room l).length = l.length / 8 + 1 := by
  unfold room
  split
  · rw [List.length_append, pack_len, List.length_singleton]; omega
  · rw [pack_len]; omega
theorem room_byte (l : List Bool) : ∀ z ∈ room l, 0 ≤ z ∧ z ≤ 255 := by
  intro z hz
  unfold room at hz
  split at hz
  · rcases List.mem_append.1 hz with h | h
    · exact pack_byte l z h
    · rw [List.mem_singleton.1 h]; decide
  · exact pack_byte l z hz
theorem room_bit (l : List Bool) (i : Nat) : bitOf (room l) i = b2i (l.getD i false) := by
  unfold room
  split
  · rw [hpad_bit, pack_bit]
  · exact pack_bit l i
theorem put_room (l : List Bool) (b : Int) (hb : 0 ≤ b ∧ b ≤ 1) {z : Int} (ez : z = (room l).getD (l.length / 8) 0) :
    (0 ≤ bits .or .u8 z (b * 2 ^ (7 - l.length % 8) % 256) ∧ bits .or .u8 z (b * 2 ^ (7 - l.length % 8) % 256) ≤ 255) ∧
    (room l).set (l.length / 8) (bits .or .u8 z (b * 2 ^ (7 - l.length % 8) % 256)) = pack (l ++ [decide (b = 1)]) := by
  subst ez
  have h0 : bitOf (room l) l.length = 0 := by rw [room_bit, List.getD_eq_getElem?_getD, List.getElem?_eq_none (Nat.le_refl _)]; rfl
  have hp := put_bit (room l) l.length b (room_byte l) (by rw [room_len]; omega) (by omega) h0
  refine ⟨hp.1, ?_⟩
  refine eq_of_bits _ _ ?_ (pack_byte _) ?_ ?_
  · intro z hz
    rcases List.mem_or_eq_of_mem_set hz with h | h
    · exact room_byte l z h
    · rw [h]; exact hp.1
  · rw [List.length_set, room_len, pack_len, List.length_append, List.length_singleton]; omega
  · intro i _
    rw [hp.2 i, pack_bit, getD_app]
    by_cases hi : i = l.length
    · subst hi
      rw [if_pos rfl, if_neg (by omega), Nat.sub_self]
      have : b = 0 ∨ b = 1 := by omega
      rcases this with rfl | rfl <;> rfl
    · rw [if_neg hi, room_bit]
      split
      · rfl
      · rw [List.getD_eq_getElem?_getD, List.getElem?_eq_none (by omega), List.getD_eq_getElem?_getD, List.getElem?_eq_none (by simp; omega)]
/-- The bits of v, one more of them laid. -/
theorem bitsI_take (k : Nat) (v : Int) (j : Nat) (hj : j < k) : (bitsI k v).take (k - j) = (bitsI k v).take (k - (j + 1)) ++ [decide (v / 2 ^ j % 2 = 1)] := by
  rw [show k - j = (k - (j + 1)) + 1 by omega, List.take_add_one]
  have : (bitsI k v)[k - (j + 1)]? = some (decide (v / 2 ^ j % 2 = 1)) := by
    unfold bitsI
    rw [List.getElem?_map, List.getElem?_range (by omega), Option.map_some, show k - 1 - (k - (j + 1)) = j by omega]
  rw [this]
  rfl
end Go.Proofs.YteahhkpbjkcmhaaDoor

/- Points' bits, read strictly: a step. -/
namespace Go.Proofs.YteahhkpbjkcmhaaDoor
set_option linter.unusedVariables false

def rngZ (z : Int) : Prop := -9223372036854775808 ≤ z ∧ z ≤ 9223372036854775807
/-- The form of a bend. -/
def formN (z : Int) : Nat := if z = 0 then 0 else if -64 ≤ z ∧ z ≤ 63 then 1 else if -256 ≤ z ∧ z ≤ 255 then 2 else if -2048 ≤ z ∧ z ≤ 2047 then 3 else 4
def markL : Nat → List Bool
  | 0 => [false] | 1 => [true, false] | 2 => [true, true, false] | 3 => [true, true, true, false] | _ => [true, true, true, true]
def bitsN : Nat → Nat
  | 0 => 0 | 1 => 7 | 2 => 9 | 3 => 12 | _ => 64
theorem formN_le (z : Int) : formN z ≤ 4 := by unfold formN; split; omega; split; omega; split; omega; split <;> omega
theorem encZ_form (z : Int) : encZ z = markL (formN z) ++ bitsI (bitsN (formN z)) z := by
  unfold encZ formN
  split
  · rfl
  · split
    · rfl
    · split
      · rfl
      · split <;> rfl
theorem mark_apart {j k : Nat} {x y : List Bool} (hj : j ≤ 4) (hk : k ≤ 4) (h : markL j ++ x = markL k ++ y) : j = k := by
  match j, hj, k, hk with
  | 0, _, 0, _ => rfl
  | 1, _, 1, _ => rfl
  | 2, _, 2, _ => rfl
  | 3, _, 3, _ => rfl
  | 4, _, 4, _ => rfl
  | 0, _, 1, _ | 0, _, 2, _ | 0, _, 3, _ | 0, _, 4, _ => simp [markL] at h
  | 1, _, 0, _ | 1, _, 2, _ | 1, _, 3, _ | 1, _, 4, _ => simp [markL] at h
  | 2, _, 0, _ | 2, _, 1, _ | 2, _, 3, _ | 2, _, 4, _ => simp [markL] at h
  | 3, _, 0, _ | 3, _, 1, _ | 3, _, 2, _ | 3, _, 4, _ => simp [markL] at h
  | 4, _, 0, _ | 4, _, 1, _ | 4, _, 2, _ | 4, _, 3, _ => simp [markL] at h
/-- How a bend is read. -/
def BendR (st st' : Option (List Bool)) (z : Int) : Prop :=
  match st with
  | none => st' = none
  | some l => (∃ r, l = encZ z ++ r ∧ st' = some r) ∨ (st' = none ∧ ∀ z' r, rngZ z' → l ≠ encZ z' ++ r)
theorem bend_short {k : Nat} (hk : k < 4) : ∀ z' r, rngZ z' → List.replicate k true ≠ encZ z' ++ r := by
  intro z' r hz h
  have h1 := decZ_enc z' r hz
  rw [← h] at h1
  match k, hk with
  | 0, _ => cases h1
  | 1, _ => cases h1
  | 2, _ => cases h1
  | 3, _ => cases h1
theorem bend_dec {k : Nat} (hk : k ≤ 4) (l2 : List Bool) : decZ (markL k ++ l2) = if k = 0 then some (0, l2) else getS (bitsN k) l2 := by
  match k, hk with
  | 0, _ => rfl
  | 1, _ => rfl
  | 2, _ => rfl
  | 3, _ => rfl
  | 4, _ => rfl
theorem bend_cut {k : Nat} (hk : k ≤ 4) {l2 : List Bool} (h : get (bitsN k) l2 = none) : ∀ z' r, rngZ z' → markL k ++ l2 ≠ encZ z' ++ r := by
  intro z' r hz e
  have h1 := decZ_enc z' r hz
  rw [← e, bend_dec hk] at h1
  split at h1
  · rename_i h0
    subst h0
    simp [bitsN, get] at h
  · unfold getS at h1; rw [h] at h1; cases h1
theorem bend_is {k : Nat} (hk : k ≤ 4) {l2 r : List Bool} {u z : Int} (h : get (bitsN k) l2 = some (u, r)) (hz : z = if k = 0 then 0 else sgn (bitsN k) u) :
    (formN z = k → markL k ++ l2 = encZ z ++ r) ∧ (formN z ≠ k → ∀ z' r', rngZ z' → markL k ++ l2 ≠ encZ z' ++ r') := by
  obtain ⟨e, h0, h1⟩ := get_back h
  constructor
  · intro hf
    rw [encZ_form, hf, e, List.append_assoc]
    congr 2
    by_cases hk0 : k = 0
    · subst hk0; rfl
    · rw [if_neg hk0] at hz
      have : bitsI (bitsN k) u = bitsI (bitsN k) z := by
        rw [hz]
        unfold sgn
        split
        · rfl
        · unfold bitsI
          refine List.map_congr_left fun i hi => ?_
          have hi := List.mem_range.1 hi
          have e2 : (2 : Int) ^ bitsN k = 2 ^ (bitsN k - 1 - i) * (2 * 2 ^ i) := by rw [show (2 : Int) * 2 ^ i = 2 ^ (i + 1) by rw [Int.pow_succ]; omega, ← Int.pow_add]; congr 1; omega
          rw [e2]
          have hp := pow2_pos (bitsN k - 1 - i)
          have e3 : (u - 2 ^ (bitsN k - 1 - i) * (2 * 2 ^ i)) / 2 ^ (bitsN k - 1 - i) = u / 2 ^ (bitsN k - 1 - i) - 2 * 2 ^ i := by
            rw [show u - 2 ^ (bitsN k - 1 - i) * (2 * 2 ^ i) = u + 2 ^ (bitsN k - 1 - i) * (-(2 * 2 ^ i)) by rw [Int.mul_neg]; omega, Int.add_mul_ediv_left _ _ (by omega)]
            omega
          rw [e3]
          have : (u / 2 ^ (bitsN k - 1 - i) - 2 * 2 ^ i) % 2 = u / 2 ^ (bitsN k - 1 - i) % 2 := by omega
          rw [this]
      exact this
  · intro hf z' r' hz' he
    have hd := decZ_enc z' r' hz'
    rw [← he, bend_dec hk] at hd
    have ez : z' = z := by
      by_cases hk0 : k = 0
      · rw [if_pos hk0] at hd hz
        simp only [Option.some.injEq, Prod.mk.injEq] at hd
        omega
      · rw [if_neg hk0] at hd hz
        unfold getS at hd
        rw [h, Option.map_some] at hd
        simp only [Option.some.injEq, Prod.mk.injEq] at hd
        omega
    subst ez
    rw [encZ_form, List.append_assoc] at he
    exact hf (mark_apart hk (formN_le _) he).symm
end Go.Proofs.YteahhkpbjkcmhaaDoor

/- Points' bits, read strictly: a change. -/
namespace Go.Proofs.YteahhkpbjkcmhaaDoor
set_option linter.unusedVariables false

/-- A window as the document has it, and as the program has it. -/
def WinP (a b pa pb : Int) : Prop := (a = -1 ∧ pa = 64 ∧ pb = 0) ∨ (0 ≤ a ∧ a ≤ 31 ∧ 0 ≤ b ∧ a + b ≤ 63 ∧ pa = a ∧ pb = b)
theorem WinP.bd {a b pa pb : Int} (h : WinP a b pa pb) : 0 ≤ pa ∧ pa ≤ 64 ∧ 0 ≤ pb ∧ pb ≤ 63 ∧ pa + pb ≤ 64 := by rcases h with h | h <;> omega
theorem WinP.winr {a b pa pb : Int} (h : WinP a b pa pb) : WinR a b pa (64 - pa - pb) := by
  rcases h with ⟨h, _⟩ | ⟨h1, h2, h3, h4, h5, h6⟩
  · exact .inl h
  · exact .inr ⟨h1, h2, h3, h4, h5, by omega⟩
/-- How a change is read. -/
def ChgR (a b : Int) (st st' : Option (List Bool)) (x a' b' : Int) : Prop :=
  match st with
  | none => st' = none
  | some l => (∃ r, l = (encV a b x).1 ++ r ∧ st' = some r ∧ a' = (encV a b x).2.1 ∧ b' = (encV a b x).2.2) ∨ (st' = none ∧ ∀ x' r, okV x' → l ≠ (encV a b x').1 ++ r)
theorem chg_dec {a b pa pb x : Int} {l r : List Bool} (hw : WinP a b pa pb) (hx : okV x) (h : l = (encV a b x).1 ++ r) : ∃ A w, decV pa (64 - pa - pb) l = some ((x, A, w), r) := by
  obtain ⟨A, w, h1, _⟩ := decV_enc r hw.winr hx.1 hx.2
  exact ⟨A, w, by rw [h]; exact h1⟩
theorem chg_none {a b pa pb : Int} {l : List Bool} (hw : WinP a b pa pb) (h : decV pa (64 - pa - pb) l = none) : ∀ x r, okV x → l ≠ (encV a b x).1 ++ r := by
  intro x r hx e
  obtain ⟨A, w, h1⟩ := chg_dec hw hx e
  rw [h] at h1
  cases h1
theorem chg_same (a b : Int) (r : List Bool) : ChgR a b (some (false :: r)) (some r) 0 a b := by
  have e : encV a b 0 = ([false], a, b) := by unfold encV; rw [if_pos rfl]
  exact .inl ⟨r, by rw [e]; rfl, rfl, by rw [e], by rw [e]⟩
theorem lead_ge {x : Int} {a : Nat} (h0 : 0 < x) (h1 : x < 2 ^ (64 - a)) (ha : a ≤ 63) : a ≤ leadN x := by
  have h64 : x < 2 ^ 64 := Int.lt_of_lt_of_le h1 (pow2_le (by omega))
  obtain ⟨⟨a1, a2, a3⟩, _⟩ := edges_of h0 h64
  by_cases h : a ≤ leadN x
  · exact h
  · have hx : x < 2 ^ (63 - leadN x) := Int.lt_of_lt_of_le h1 (pow2_le (by omega))
    unfold bitI at a2
    rw [Int.ediv_eq_zero_of_lt (by omega) hx] at a2
    cases a2
theorem trail_ge {x : Int} {b : Nat} (h0 : 0 < x) (h1 : x < 2 ^ 64) (hm : x % 2 ^ b = 0) : b ≤ trailN x := by
  obtain ⟨_, b1, b2, b3⟩ := edges_of h0 h1
  by_cases h : b ≤ trailN x
  · exact h
  · have e : x % 2 ^ (trailN x + 1) = 0 := mod_low (by omega) hm
    unfold bitI at b2
    have hp := pow2_pos (trailN x)
    rw [Int.pow_succ] at e
    have h2 := Int.mul_ediv_add_emod x (2 ^ trailN x * 2)
    rw [e, Int.mul_assoc, Int.add_zero] at h2
    generalize trailN x = T at *
    have h3 : x / 2 ^ T = 2 * (x / (2 ^ T * 2)) := by
      generalize x / (2 ^ T * 2) = y at *
      rw [← h2, Int.mul_ediv_cancel_left _ (by omega)]
    omega
/-- A change in the window that is left. -/
theorem kept_is {a b pa pb : Int} {l2 r : List Bool} {u : Int} (hw : WinP a b pa pb) (h : get (64 - pa - pb).toNat l2 = some (u, r)) :
    (u * 2 ^ pb.toNat ≠ 0 → okV (u * 2 ^ pb.toNat) ∧ true :: false :: l2 = (encV a b (u * 2 ^ pb.toNat)).1 ++ r ∧ (encV a b (u * 2 ^ pb.toNat)).2 = (a, b)) ∧ (u * 2 ^ pb.toNat = 0 → ∀ x r', okV x → true :: false :: l2 ≠ (encV a b x).1 ++ r') := by
  have hbd := hw.bd
  obtain ⟨e, h0, h1⟩ := get_back h
  constructor
  · intro hx
    rcases hw with ⟨ha, hpa, hpb⟩ | ⟨g1, g2, g3, g4, rfl, rfl⟩
    · subst hpa hpb
      simp at h1
      have : u = 0 := by omega
      subst this
      simp at hx
    · obtain ⟨an, rfl⟩ : ∃ n : Nat, pa = n := ⟨pa.toNat, by omega⟩
      obtain ⟨bn, rfl⟩ : ∃ n : Nat, pb = n := ⟨pb.toNat, by omega⟩
      rw [show (64 - (an : Int) - bn).toNat = 64 - an - bn by omega] at h1 e
      rw [Int.toNat_natCast] at hx ⊢
      have hp := pow2_pos bn
      have hlt : u * 2 ^ bn < 2 ^ (64 - an) := by
        have e2 : (2 : Int) ^ (64 - an) = 2 ^ (64 - an - bn) * 2 ^ bn := by rw [← Int.pow_add]; congr 1; omega
        rw [e2]
        exact Int.mul_lt_mul_of_pos_right h1 hp
      have h64 : u * 2 ^ bn < 2 ^ 64 := Int.lt_of_lt_of_le hlt (pow2_le (by omega))
      have hnn : 0 ≤ u * 2 ^ bn := Int.mul_nonneg h0 (Int.le_of_lt hp)
      have hm : u * 2 ^ bn % 2 ^ bn = 0 := Int.mul_emod_left _ _
      have hL := lead_ge (a := an) (by omega) hlt (by omega)
      have hT := trail_ge (b := bn) (by omega) h64 hm
      refine ⟨⟨hnn, h64⟩, ?_⟩
      unfold encV
      rw [if_neg hx, if_pos ⟨by omega, by omega, by omega⟩]
      refine ⟨?_, rfl⟩
      show true :: false :: l2 = ([true, false] ++ bitsI _ _) ++ r
      rw [Int.toNat_natCast, Int.mul_ediv_cancel _ (by omega), show (64 - (an : Int) - bn).toNat = 64 - an - bn by omega, e]
      rfl
  · intro hx x r' hok he
    obtain ⟨A, w, hd⟩ := chg_dec hw hok he
    simp only [decV] at hd
    rw [if_neg (by omega), h, Option.map_some] at hd
    simp only [Option.some.injEq, Prod.mk.injEq] at hd
    rw [show (64 - pa - (64 - pa - pb)).toNat = pb.toNat by congr 1; omega, hx] at hd
    have : x = 0 := by omega
    subst this
    unfold encV at he
    rw [if_pos rfl] at he
    simp at he
theorem kept_cut {a b pa pb : Int} {l2 : List Bool} (hw : WinP a b pa pb) (h : get (64 - pa - pb).toNat l2 = none) : ∀ x r', okV x → true :: false :: l2 ≠ (encV a b x).1 ++ r' := by
  have hbd := hw.bd
  refine chg_none hw ?_
  simp only [decV]
  rw [if_neg (by omega), h]
  rfl
/-- A change in a window of its own. -/
theorem new_is {a b pa pb : Int} {l2 l3 l4 r : List Bool} {A w6 u x : Int} (hw : WinP a b pa pb) (h5 : get 5 l2 = some (A, l3)) (h6 : get 6 l3 = some (w6, l4)) (hb : A + (w6 + 1) ≤ 64) (h : get (w6 + 1).toNat l4 = some (u, r)) (hx : x = u * 2 ^ (64 - A - (w6 + 1)).toNat) :
    okV x ∧ (x ≠ 0 → min (leadN x : Int) 31 = A → (trailN x : Int) = 64 - A - (w6 + 1) → ¬ (pa ≤ A ∧ pb ≤ 64 - A - (w6 + 1)) → true :: true :: l2 = (encV a b x).1 ++ r ∧ (encV a b x).2 = (A, 64 - A - (w6 + 1))) ∧
    ((x = 0 ∨ ¬ (min (leadN x : Int) 31 = A ∧ (trailN x : Int) = 64 - A - (w6 + 1) ∧ ¬ (pa ≤ A ∧ pb ≤ 64 - A - (w6 + 1)))) → ∀ x' r', okV x' → true :: true :: l2 ≠ (encV a b x').1 ++ r') := by
  have hbd := hw.bd
  obtain ⟨e5, a0, a1⟩ := get_back h5
  obtain ⟨e6, b0, b1⟩ := get_back h6
  obtain ⟨e7, h0, h1⟩ := get_back h
  have a1 : A < 32 := a1
  have b1 : w6 < 64 := b1
  obtain ⟨B, eB⟩ : ∃ B : Nat, 64 - A - (w6 + 1) = B := ⟨(64 - A - (w6 + 1)).toNat, by omega⟩
  obtain ⟨an, rfl⟩ : ∃ n : Nat, A = n := ⟨A.toNat, by omega⟩
  rw [eB, Int.toNat_natCast] at hx
  rw [eB]
  have ew : (w6 + 1).toNat = 64 - an - B := by omega
  rw [ew] at h1 e7
  have hp := pow2_pos B
  have hlt : u * 2 ^ B < 2 ^ (64 - an) := by
    have e2 : (2 : Int) ^ (64 - an) = 2 ^ (64 - an - B) * 2 ^ B := by rw [← Int.pow_add]; congr 1; omega
    rw [e2]
    exact Int.mul_lt_mul_of_pos_right h1 hp
  have h64 : u * 2 ^ B < 2 ^ 64 := Int.lt_of_lt_of_le hlt (pow2_le (by omega))
  have hnn : 0 ≤ u * 2 ^ B := Int.mul_nonneg h0 (Int.le_of_lt hp)
  have hok : okV x := by rw [hx]; exact ⟨hnn, h64⟩
  refine ⟨hok, ?_, ?_⟩
  · intro hx0 hA hB hn
    unfold encV
    rw [if_neg hx0, hA, hB, if_neg (fun g => hn (by rcases hw with hw | hw <;> omega))]
    refine ⟨?_, rfl⟩
    show true :: true :: l2 = ([true, true] ++ (bitsI 5 _ ++ (bitsI 6 _ ++ bitsI _ _))) ++ r
    have hBt : trailN x = B := by omega
    rw [hBt, show (64 - (an : Int) - (B : Int) - 1) = w6 by omega, show (64 - (an : Int) - (B : Int)).toNat = 64 - an - B by omega, hx, Int.mul_ediv_cancel _ (by omega), e5, e6, e7]
    simp [List.append_assoc]
  · intro hc x' r' hok' he
    obtain ⟨A', w', hd⟩ := chg_dec hw hok' he
    simp only [decV] at hd
    rw [h5, Option.bind_some] at hd
    simp only at hd
    rw [h6, Option.bind_some] at hd
    simp only at hd
    rw [if_neg (by omega), h, Option.map_some] at hd
    simp only [Option.some.injEq, Prod.mk.injEq] at hd
    rw [eB, Int.toNat_natCast, ← hx] at hd
    have ex : x' = x := hd.1.1.symm
    subst ex
    unfold encV at he
    by_cases hx0 : x' = 0
    · rw [if_pos hx0] at he
      simp at he
    · rw [if_neg hx0] at he
      split at he
      · simp at he
      · rename_i hcond
        have he2 : true :: true :: l2 = ([true, true] ++ (bitsI 5 (min (leadN x' : Int) 31) ++ (bitsI 6 (64 - min (leadN x' : Int) 31 - trailN x' - 1) ++ bitsI (64 - min (leadN x' : Int) 31 - trailN x').toNat (x' / 2 ^ trailN x')))) ++ r' := he
        simp only [List.cons_append, List.nil_append, List.append_assoc, List.cons.injEq, true_and] at he2
        have hf := (edges_facts (x := x') (by have := hok.1; omega) hok.2).1
        rw [he2, get_bits] at h5
        simp only [Option.some.injEq, Prod.mk.injEq] at h5
        obtain ⟨hA1, hl3⟩ := h5
        rw [← hl3, get_bits] at h6
        simp only [Option.some.injEq, Prod.mk.injEq] at h6
        have hA2 : min (leadN x' : Int) 31 = an := by
          have : (min (leadN x' : Int) 31) % 32 = an := hA1
          omega
        have hB2 : (trailN x' : Int) = B := by
          have : (64 - min (leadN x' : Int) 31 - trailN x' - 1) % 64 = w6 := h6.1
          omega
        rcases hc with hc | hc
        · exact hx0 hc
        · refine hc ⟨hA2, hB2, fun g => hcond ?_⟩
          rcases hw with hw | hw <;> omega
theorem new_cut {a b pa pb : Int} {l2 : List Bool} (hw : WinP a b pa pb) (h : ((get 5 l2).bind fun q => (get 6 q.2).bind fun s => if q.1 + (s.1 + 1) > 64 then none else (get (s.1 + 1).toNat s.2)) = none) : ∀ x r', okV x → true :: true :: l2 ≠ (encV a b x).1 ++ r' := by
  refine chg_none hw ?_
  simp only [decV]
  cases h5 : get 5 l2 with
  | none => rfl
  | some q =>
    rw [h5, Option.bind_some] at h
    rw [Option.bind_some]
    cases h6 : get 6 q.2 with
    | none => rfl
    | some s =>
      rw [h6, Option.bind_some] at h
      rw [Option.bind_some]
      split
      · rfl
      · rename_i hc
        rw [if_neg hc] at h
        rw [h]
        rfl
theorem chg_short {a b pa pb : Int} (hw : WinP a b pa pb) : (∀ x r, okV x → [] ≠ (encV a b x).1 ++ r) ∧ (∀ x r, okV x → [true] ≠ (encV a b x).1 ++ r) := ⟨chg_none hw rfl, chg_none hw rfl⟩
end Go.Proofs.YteahhkpbjkcmhaaDoor

/- Noughts ahead and behind, by halves. -/
namespace Go.Proofs.YteahhkpbjkcmhaaDoor
set_option linter.unusedVariables false

theorem lead_lt {x : Int} {n : Nat} (hx : 0 < x) (h64 : x < 2 ^ 64) (hn : n ≤ leadN x) : x < 2 ^ (64 - n) :=
  Int.lt_of_lt_of_le (edges_facts hx h64).2.1 (pow2_le (by omega))
theorem lead_step {x : Int} {n s : Nat} (hx : 0 < x) (h64 : x < 2 ^ 64) (hs : n + s ≤ 64) : x * 2 ^ n / 2 ^ (64 - s) = 0 ↔ n + s ≤ leadN x := by
  have hp := pow2_pos n
  have hq := pow2_pos (64 - s)
  have e : (2 : Int) ^ (64 - s) = 2 ^ (64 - (n + s)) * 2 ^ n := by rw [← Int.pow_add]; congr 1; omega
  have hnn : 0 < x * 2 ^ n := Int.mul_pos hx hp
  constructor
  · intro h
    have h1 : x * 2 ^ n < 2 ^ (64 - s) := by
      have h2 := Int.lt_mul_ediv_self_add (x := x * 2 ^ n) hq
      rw [h] at h2
      omega
    rw [e] at h1
    have h2 : x < 2 ^ (64 - (n + s)) := Int.lt_of_mul_lt_mul_right h1 (Int.le_of_lt hp)
    refine lead_ge hx h2 ?_
    by_cases h3 : n + s ≤ 63
    · exact h3
    · rw [show 64 - (n + s) = 0 by omega] at h2
      simp at h2
      omega
  · intro h
    have h1 := lead_lt hx h64 h
    refine Int.ediv_eq_zero_of_lt (by omega) ?_
    rw [e]
    exact Int.mul_lt_mul_of_pos_right h1 hp
theorem trail_step {x : Int} {n s : Nat} (hx : 0 < x) (h64 : x < 2 ^ 64) (hn : n ≤ trailN x) : x / 2 ^ n % 2 ^ s = 0 ↔ n + s ≤ trailN x := by
  have hp := pow2_pos n
  have hq := pow2_pos s
  have hm : x % 2 ^ n = 0 := mod_low hn (edges_facts hx h64).2.2
  have h1 := Int.mul_ediv_add_emod x (2 ^ n)
  rw [hm, Int.add_zero] at h1
  constructor
  · intro h
    refine trail_ge hx h64 ?_
    have h2 := Int.mul_ediv_add_emod (x / 2 ^ n) (2 ^ s)
    rw [h, Int.add_zero] at h2
    rw [← h1, ← h2, ← Int.mul_assoc, ← Int.pow_add]
    exact Int.mul_emod_right _ _
  · intro h
    have h2 : x % 2 ^ (n + s) = 0 := mod_low h (edges_facts hx h64).2.2
    have h3 := Int.mul_ediv_add_emod x (2 ^ (n + s))
    rw [h2, Int.add_zero, Int.pow_add, Int.mul_assoc] at h3
    have h4 : x / 2 ^ n = 2 ^ s * (x / (2 ^ n * 2 ^ s)) := by
      generalize x / (2 ^ n * 2 ^ s) = y at *
      rw [← h3, Int.mul_ediv_cancel_left _ (by omega)]
    rw [h4]
    exact Int.mul_emod_right _ _
theorem shl_zero {y : Int} {s : Nat} (hs : s ≤ 64) : y * 2 ^ (64 - s) % 18446744073709551616 = 0 ↔ y % 2 ^ s = 0 := by
  have hp := pow2_pos (64 - s)
  have e : (18446744073709551616 : Int) = 2 ^ s * 2 ^ (64 - s) := by rw [← Int.pow_add, show s + (64 - s) = 64 by omega]; rfl
  rw [e, Int.mul_comm y, Int.mul_comm (2 ^ s), Int.mul_emod_mul_of_pos _ _ hp]
  constructor
  · intro h
    rcases Int.mul_eq_zero.1 h with h | h
    · omega
    · exact h
  · intro h; rw [h, Int.mul_zero]
/-- Between two halves, ahead: x shifted by n so far, 2 ^ j to go. -/
def AheadAt (x : Int) (j : Nat) (y : Int) (n : Nat) : Prop := j ≤ 6 ∧ n + 2 ^ j ≤ 64 ∧ y = x * 2 ^ n ∧ y ≤ 18446744073709551615 ∧ (0 < x → n ≤ leadN x ∧ leadN x < n + 2 ^ j)
theorem AheadAt.yes {x y : Int} {j n : Nat} (h : AheadAt x (j + 1) y n) (h0 : 0 ≤ x) (h64 : x < 2 ^ 64) (ht : y / 2 ^ (64 - 2 ^ j) = 0) : AheadAt x j (y * 2 ^ (2 ^ j)) (n + 2 ^ j) := by
  obtain ⟨h1, h2, rfl, h3, h4⟩ := h
  have e2 : 2 ^ (j + 1) = 2 ^ j + 2 ^ j := by rw [Nat.pow_succ]; omega
  have ey : x * 2 ^ n * 2 ^ (2 ^ j) = x * 2 ^ (n + 2 ^ j) := by rw [Int.mul_assoc, ← Int.pow_add]
  by_cases hx : 0 < x
  · obtain ⟨h5, h6⟩ := h4 hx
    have h7 := (lead_step hx h64 (n := n) (s := 2 ^ j) (by omega)).1 ht
    have h8 := lead_lt hx h64 h7
    refine ⟨by omega, by omega, ey, ?_, fun _ => ⟨h7, by omega⟩⟩
    rw [ey]
    have hp := pow2_pos (n + 2 ^ j)
    have h9 := Int.mul_lt_mul_of_pos_right h8 hp
    rw [← Int.pow_add, show 64 - (n + 2 ^ j) + (n + 2 ^ j) = 64 by omega] at h9
    have e64 : (2 : Int) ^ 64 = 18446744073709551616 := rfl
    omega
  · have : x = 0 := by omega
    subst this
    exact ⟨by omega, by omega, by simp, by simp, fun h => absurd h (by omega)⟩
theorem AheadAt.no {x y : Int} {j n : Nat} (h : AheadAt x (j + 1) y n) (h0 : 0 ≤ x) (h64 : x < 2 ^ 64) (ht : ¬ y / 2 ^ (64 - 2 ^ j) = 0) : AheadAt x j y n := by
  obtain ⟨h1, h2, rfl, h3, h4⟩ := h
  have e2 : 2 ^ (j + 1) = 2 ^ j + 2 ^ j := by rw [Nat.pow_succ]; omega
  have hp2 : 0 < 2 ^ j := Nat.two_pow_pos j
  refine ⟨by omega, by omega, rfl, h3, fun hx => ⟨(h4 hx).1, ?_⟩⟩
  by_cases h7 : leadN x < n + 2 ^ j
  · exact h7
  · exact absurd ((lead_step hx h64 (n := n) (s := 2 ^ j) (by omega)).2 (by omega)) ht
theorem AheadAt.start {x : Int} (h0 : 0 ≤ x) (h64 : x < 2 ^ 64) : AheadAt x 6 x 0 := by
  have e64 : (2 : Int) ^ 64 = 18446744073709551616 := rfl
  refine ⟨by omega, by decide, by simp, by omega, fun hx => ⟨Nat.zero_le _, ?_⟩⟩
  have := (edges_of hx h64).1.1
  simpa using this
/-- The like, behind. -/
def BehindAt (x : Int) (j : Nat) (y : Int) (n : Nat) : Prop := j ≤ 6 ∧ n + 2 ^ j ≤ 64 ∧ y = x / 2 ^ n ∧ (0 ≤ y ∧ y ≤ 18446744073709551615) ∧ (0 < x → n ≤ trailN x ∧ trailN x < n + 2 ^ j)
theorem BehindAt.yes {x y : Int} {j n : Nat} (h : BehindAt x (j + 1) y n) (h0 : 0 ≤ x) (h64 : x < 2 ^ 64) (ht : y * 2 ^ (64 - 2 ^ j) % 18446744073709551616 = 0) : BehindAt x j (y / 2 ^ (2 ^ j)) (n + 2 ^ j) := by
  obtain ⟨h1, h2, rfl, h3, h4⟩ := h
  have e2 : 2 ^ (j + 1) = 2 ^ j + 2 ^ j := by rw [Nat.pow_succ]; omega
  have hp := pow2_pos (2 ^ j)
  have hpn := pow2_pos n
  have ey : x / 2 ^ n / 2 ^ (2 ^ j) = x / 2 ^ (n + 2 ^ j) := by rw [Int.pow_add, Int.ediv_ediv_of_nonneg (by omega)]
  have hb : 0 ≤ x / 2 ^ n / 2 ^ (2 ^ j) ∧ x / 2 ^ n / 2 ^ (2 ^ j) ≤ 18446744073709551615 := by
    have := Int.ediv_le_self (2 ^ (2 ^ j)) h3.1
    exact ⟨Int.ediv_nonneg h3.1 (Int.le_of_lt hp), by omega⟩
  refine ⟨by omega, by omega, ey, hb, fun hx => ?_⟩
  obtain ⟨h5, h6⟩ := h4 hx
  have h7 := (trail_step hx h64 h5 (s := 2 ^ j)).1 ((shl_zero (by omega)).1 ht)
  exact ⟨h7, by omega⟩
theorem BehindAt.no {x y : Int} {j n : Nat} (h : BehindAt x (j + 1) y n) (h0 : 0 ≤ x) (h64 : x < 2 ^ 64) (ht : ¬ y * 2 ^ (64 - 2 ^ j) % 18446744073709551616 = 0) : BehindAt x j y n := by
  obtain ⟨h1, h2, rfl, h3, h4⟩ := h
  have e2 : 2 ^ (j + 1) = 2 ^ j + 2 ^ j := by rw [Nat.pow_succ]; omega
  have hp2 : 0 < 2 ^ j := Nat.two_pow_pos j
  refine ⟨by omega, by omega, rfl, h3, fun hx => ⟨(h4 hx).1, ?_⟩⟩
  by_cases h7 : trailN x < n + 2 ^ j
  · exact h7
  · exact absurd ((shl_zero (by omega)).2 ((trail_step hx h64 (h4 hx).1 (s := 2 ^ j)).2 (by omega))) ht
theorem BehindAt.start {x : Int} (h0 : 0 ≤ x) (h64 : x < 2 ^ 64) : BehindAt x 6 x 0 := by
  have e64 : (2 : Int) ^ 64 = 18446744073709551616 := rfl
  refine ⟨by omega, by decide, by simp, by omega, fun hx => ⟨Nat.zero_le _, ?_⟩⟩
  have := (edges_of hx h64).2.1
  simpa using this
end Go.Proofs.YteahhkpbjkcmhaaDoor

/- Bits in whole bytes, and the rest of them. -/
namespace Go.Proofs.YteahhkpbjkcmhaaDoor
set_option linter.unusedVariables false

theorem pack_app (l r : List Bool) (h : l.length % 8 = 0) : pack (l ++ r) = pack l ++ pack r := by
  obtain ⟨m, hm⟩ : ∃ m, l.length = 8 * m := ⟨l.length / 8, by omega⟩
  have e1 : (l.length + 7) / 8 = m := by omega
  have e2 : ((l ++ r).length + 7) / 8 = m + (r.length + 7) / 8 := by rw [List.length_append]; omega
  unfold pack
  rw [e1, e2, List.range_add, List.map_append, List.map_map]
  congr 1
  · refine List.map_congr_left fun i hi => ?_
    have hi := List.mem_range.1 hi
    unfold byteL
    congr 1
    refine List.map_congr_left fun j hj => ?_
    have hj := List.mem_range.1 hj
    rw [getD_app, if_pos (by omega)]
  · refine List.map_congr_left fun i hi => ?_
    show byteL (l ++ r) (m + i) = byteL r i
    unfold byteL
    congr 1
    refine List.map_congr_left fun j hj => ?_
    rw [getD_app, if_neg (by omega)]
    congr 1
    omega
def fullB (l : List Bool) : List Int := pack (l.take (8 * (l.length / 8)))
def restL (l : List Bool) : List Bool := l.drop (8 * (l.length / 8))
theorem restL_len (l : List Bool) : (restL l).length = l.length % 8 := by unfold restL; rw [List.length_drop]; omega
theorem fullB_len (l : List Bool) : (fullB l).length = l.length / 8 := by unfold fullB; rw [pack_len, List.length_take]; omega
theorem fullB_byte (l : List Bool) : ∀ z ∈ fullB l, 0 ≤ z ∧ z ≤ 255 := pack_byte _
theorem full_rest (l : List Bool) : fullB l ++ pack (restL l) = pack l := by
  unfold fullB restL
  rw [← pack_app _ _ (by rw [List.length_take]; omega), List.take_append_drop]
theorem pack_take (m : List Bool) : (pack m).take (m.length / 8) = fullB m := by
  rw [← full_rest m, List.take_left' (fullB_len m)]
theorem pack_drop (m : List Bool) : (pack m).drop (m.length / 8) = pack (restL m) := by
  rw [← full_rest m, List.drop_left' (fullB_len m)]
theorem wr_more (l b : List Bool) : (l ++ b).length / 8 = l.length / 8 + (restL l ++ b).length / 8 ∧ fullB (l ++ b) = fullB l ++ fullB (restL l ++ b) ∧ restL (l ++ b) = restL (restL l ++ b) := by
  obtain ⟨q, hq⟩ : ∃ q, q = l.length / 8 := ⟨_, rfl⟩
  have h1 : l.take (8 * q) ++ restL l = l := by unfold restL; rw [← hq]; exact List.take_append_drop _ _
  have h2 : (l.take (8 * q)).length = 8 * q := by rw [List.length_take]; omega
  have h3 : (restL l ++ b).length = l.length % 8 + b.length := by rw [List.length_append, restL_len]
  have h4 : (l ++ b).length / 8 = q + (restL l ++ b).length / 8 := by rw [h3, List.length_append]; omega
  have e : l ++ b = l.take (8 * q) ++ (restL l ++ b) := by rw [← List.append_assoc, h1]
  refine ⟨by rw [h4, hq], ?_, ?_⟩
  · unfold fullB
    rw [h4, e, show 8 * (q + (restL l ++ b).length / 8) = (l.take (8 * q)).length + 8 * ((restL l ++ b).length / 8) by omega, List.take_length_add_append, pack_app _ _ (by omega), hq]
  · have hd : ∀ k, (l.take (8 * q) ++ (restL l ++ b)).drop (8 * q + k) = (restL l ++ b).drop k := by
      intro k
      rw [← List.drop_drop, List.drop_left' h2]
    show (l ++ b).drop (8 * ((l ++ b).length / 8)) = _
    rw [h4, e, show 8 * (q + (restL l ++ b).length / 8) = 8 * q + 8 * ((restL l ++ b).length / 8) by omega, hd]
    rfl
end Go.Proofs.YteahhkpbjkcmhaaDoor

/- A scope in which the run jumps to several labels. -/
namespace Go.Proofs.YteahhkpbjkcmhaaDoor
open Go.RowKit
set_option linter.unusedVariables false

/-- As Q; by a goto to a label l: J l. -/
def jumps (J : Nat → Act → World → Prop) (Q : Exit → Act → World → Prop) : Exit → Act → World → Prop
  | .goto l, a, w => J l a w
  | e, a, w => Q e a w
theorem jumps_mono {P : Program} {J J' : Nat → Act → World → Prop} {Q : Exit → Act → World → Prop} (h : ∀ l a w, J l a w → J' l a w) {c : Code} {a : Act} {w : World} (hc : c.wp P (jumps J Q) a w) : c.wp P (jumps J' Q) a w := by
  refine Code.wp_mono (fun e a' w' q => ?_) hc
  cases e with
  | goto l => exact h l a' w' q
  | _ => exact q
theorem wp_scope_many {P : Program} {a : Act} {w : World} {Q : Exit → Act → World → Prop} {c : Code} (rest : Nat → Code) (J : Nat → Act → World → Prop) (μ : Nat → Act → World → Nat) (hf : ∀ l a w, J l a w → findLabel c l = some (rest l))
    (first : c.wp P (jumps J Q) a w)
    (pass : ∀ l a w, J l a w → (rest l).wp P (jumps (fun l' a' w' => J l' a' w' ∧ μ l' a' w' < μ l a w) Q) a w) : (Code.scope c).wp P Q a w := by
  intro b k cs
  have hg : ∀ l a w, J l a w → gotoIn l (.inScope c :: k) = some (.code (rest l) :: .inScope c :: k) := fun l a w h => by simp [gotoIn, hf l a w h]
  have key : ∀ n l a w, μ l a w = n → J l a w → ∃ e a' w', Q e a' w' ∧ Arrives P (lone (b.at a (.code (rest l) :: .inScope c :: k)) cs w) b k cs e a' w' := by
    intro n
    induction n using Nat.strongRecOn with
    | _ n ih =>
      intro l a w hn hJ
      obtain ⟨e, a₁, w₁, hq, harr⟩ := pass l a w hJ b (.inScope c :: k) cs
      cases e with
      | normal => exact ⟨.normal, a₁, w₁, hq, Steps.trans harr (.one step_inScope)⟩
      | exit id => exact ⟨.exit id, a₁, w₁, hq, fun k' hk => harr k' (by simp [exitTo, hk])⟩
      | goto l' =>
        obtain ⟨hJ', hlt⟩ := hq
        obtain ⟨e₂, a₂, w₂, hq₂, harr₂⟩ := ih _ (by omega) l' a₁ w₁ rfl hJ'
        exact ⟨e₂, a₂, w₂, hq₂, .of_steps (harr _ (hg _ _ _ hJ')) harr₂⟩
      | ret => exact ⟨_, a₁, w₁, hq, harr⟩
      | panic ch => exact ⟨_, a₁, w₁, hq, harr⟩
      | outgrown => exact ⟨_, a₁, w₁, hq, harr⟩
  obtain ⟨e, a₁, w₁, hq, harr⟩ := first b (.inScope c :: k) cs
  cases e with
  | normal => exact ⟨.normal, a₁, w₁, hq, .head step_scope (Steps.trans harr (.one step_inScope))⟩
  | exit id => exact ⟨.exit id, a₁, w₁, hq, fun k' hk => .head step_scope (harr k' (by simp [exitTo, hk]))⟩
  | goto l' =>
    obtain ⟨e₂, a₂, w₂, hq₂, harr₂⟩ := key _ l' a₁ w₁ rfl hq
    exact ⟨e₂, a₂, w₂, hq₂, .of_steps (.head step_scope (harr _ (hg _ _ _ hq))) harr₂⟩
  | ret => exact ⟨_, a₁, w₁, hq, .of_steps (.one step_scope) harr⟩
  | panic ch => exact ⟨_, a₁, w₁, hq, .of_steps (.one step_scope) harr⟩
  | outgrown => exact ⟨_, a₁, w₁, hq, .of_steps (.one step_scope) harr⟩
/-- What is asked of a pass: behind a jump the label's state, and the measure below m. -/
def onto (J : Nat → Act → World → Prop) (μ : Nat → Act → World → Nat) (m : Nat) (Q : Exit → Act → World → Prop) : Exit → Act → World → Prop := jumps (fun l' a' w' => J l' a' w' ∧ μ l' a' w' < m) Q
def into (J : Nat → Act → World → Prop) (Q : Exit → Act → World → Prop) : Exit → Act → World → Prop := jumps J Q
def four {α : Sort _} (x0 x1 x2 x3 z : α) : Nat → α
  | 0 => x0 | 1 => x1 | 2 => x2 | 3 => x3 | _ => z
/-- Four labels; the way in comes to label 1 (the way in may also jump). -/
theorem wp_scope_four {P : Program} {a : Act} {w : World} {Q : Exit → Act → World → Prop} {c r0 r1 r2 r3 : Code} (J0 J1 J2 J3 : Act → World → Prop) (μ0 μ1 μ2 μ3 : Act → World → Nat)
    (h0 : findLabel c 0 = some (Code.skip.seq r0)) (h1 : findLabel c 1 = some (Code.skip.seq r1)) (h2 : findLabel c 2 = some (Code.skip.seq r2)) (h3 : findLabel c 3 = some (Code.skip.seq r3))
    (p0 : ∀ a w, J0 a w → r0.wp P (onto (four J0 J1 J2 J3 (fun _ _ => False)) (four μ0 μ1 μ2 μ3 (fun _ _ => 0)) (μ0 a w) Q) a w)
    (p1 : ∀ a w, J1 a w → r1.wp P (onto (four J0 J1 J2 J3 (fun _ _ => False)) (four μ0 μ1 μ2 μ3 (fun _ _ => 0)) (μ1 a w) Q) a w)
    (p2 : ∀ a w, J2 a w → r2.wp P (onto (four J0 J1 J2 J3 (fun _ _ => False)) (four μ0 μ1 μ2 μ3 (fun _ _ => 0)) (μ2 a w) Q) a w)
    (p3 : ∀ a w, J3 a w → r3.wp P (onto (four J0 J1 J2 J3 (fun _ _ => False)) (four μ0 μ1 μ2 μ3 (fun _ _ => 0)) (μ3 a w) Q) a w)
    (first : (∀ a w, J1 a w → r1.wp P (into (four J0 J1 J2 J3 (fun _ _ => False)) Q) a w) → c.wp P (into (four J0 J1 J2 J3 (fun _ _ => False)) Q) a w) : (Code.scope c).wp P Q a w := by
  refine wp_scope_many (four (Code.skip.seq r0) (Code.skip.seq r1) (Code.skip.seq r2) (Code.skip.seq r3) Code.skip) (four J0 J1 J2 J3 (fun _ _ => False)) (four μ0 μ1 μ2 μ3 (fun _ _ => 0)) ?_ (first fun a w h => jumps_mono (fun l a w h => h.1) (p1 a w h)) ?_
  · intro l a w h
    match l, h with
    | 0, _ => exact h0
    | 1, _ => exact h1
    | 2, _ => exact h2
    | 3, _ => exact h3
    | n + 4, h => exact h.elim
  · intro l a w h
    match l, h with
    | 0, h => exact wp_seq (wp_skip (p0 a w h))
    | 1, h => exact wp_seq (wp_skip (p1 a w h))
    | 2, h => exact wp_seq (wp_skip (p2 a w h))
    | 3, h => exact wp_seq (wp_skip (p3 a w h))
    | n + 4, h => exact h.elim
theorem wp_scope_three {P : Program} {a : Act} {w : World} {Q : Exit → Act → World → Prop} {c r0 r1 r2 : Code} (J0 J1 J2 : Act → World → Prop) (μ0 μ1 μ2 : Act → World → Nat)
    (h0 : findLabel c 0 = some (Code.skip.seq r0)) (h1 : findLabel c 1 = some (Code.skip.seq r1)) (h2 : findLabel c 2 = some (Code.skip.seq r2))
    (p0 : ∀ a w, J0 a w → r0.wp P (onto (four J0 J1 J2 (fun _ _ => False) (fun _ _ => False)) (four μ0 μ1 μ2 (fun _ _ => 0) (fun _ _ => 0)) (μ0 a w) Q) a w)
    (p1 : ∀ a w, J1 a w → r1.wp P (onto (four J0 J1 J2 (fun _ _ => False) (fun _ _ => False)) (four μ0 μ1 μ2 (fun _ _ => 0) (fun _ _ => 0)) (μ1 a w) Q) a w)
    (p2 : ∀ a w, J2 a w → r2.wp P (onto (four J0 J1 J2 (fun _ _ => False) (fun _ _ => False)) (four μ0 μ1 μ2 (fun _ _ => 0) (fun _ _ => 0)) (μ2 a w) Q) a w)
    (first : (∀ a w, J1 a w → r1.wp P (into (four J0 J1 J2 (fun _ _ => False) (fun _ _ => False)) Q) a w) → c.wp P (into (four J0 J1 J2 (fun _ _ => False) (fun _ _ => False)) Q) a w) : (Code.scope c).wp P Q a w := by
  refine wp_scope_many (four (Code.skip.seq r0) (Code.skip.seq r1) (Code.skip.seq r2) Code.skip Code.skip) (four J0 J1 J2 (fun _ _ => False) (fun _ _ => False)) (four μ0 μ1 μ2 (fun _ _ => 0) (fun _ _ => 0)) ?_ (first fun a w h => jumps_mono (fun l a w h => h.1) (p1 a w h)) ?_
  · intro l a w h
    match l, h with
    | 0, _ => exact h0
    | 1, _ => exact h1
    | 2, _ => exact h2
    | 3, h => exact h.elim
    | n + 4, h => exact h.elim
  · intro l a w h
    match l, h with
    | 0, h => exact wp_seq (wp_skip (p0 a w h))
    | 1, h => exact wp_seq (wp_skip (p1 a w h))
    | 2, h => exact wp_seq (wp_skip (p2 a w h))
    | 3, h => exact h.elim
    | n + 4, h => exact h.elim
end Go.Proofs.YteahhkpbjkcmhaaDoor

